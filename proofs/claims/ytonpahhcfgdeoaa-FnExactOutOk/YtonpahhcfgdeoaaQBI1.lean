/- The walk of boundIn: the variables of a tree that are bound. -/
import Derived.Test.YtonpahhcfgdeoaaQBN1BN2
import Derived.Test.YtonpahhcfgdeoaaQW7W18T5BR1BG1
namespace Go.Proofs.Ytonpahhcfgdeoaa
open Go.RowKit Go.Shelf Go.Maps
set_option linter.unusedVariables false
set_option linter.unusedSimpArgs false
attribute [local go_sem] Oper.semAt_some
attribute [-go_sem] Go.Builtin.append_

/-- Whether a place is a variable that is bound. -/
def bndC (s : List B) (c : C) : Bool := decide (c.k = 1) && !(getB s c.n).isEmpty
/-- The variables of places that are bound, in order. -/
def kidsL (s : List B) (t : List C) : List Int := (t.filter (bndC s)).map (·.n)
theorem kidsL_append (s : List B) (t u : List C) : kidsL s (t ++ u) = kidsL s t ++ kidsL s u := by simp [kidsL]
theorem kidsL_one_yes {s : List B} {c : C} (h : bndC s c = true) : kidsL s [c] = [c.n] := by simp [kidsL, h]
theorem kidsL_one_no {s : List B} {c : C} (h : bndC s c = false) : kidsL s [c] = [] := by simp [kidsL, h]
theorem kidsL_len (s : List B) (t : List C) : (kidsL s t).length ≤ t.length := by simp [kidsL]; exact List.length_filter_le _ _
theorem mem_kidsL {s : List B} {t : List C} {v : Int} : v ∈ kidsL s t ↔ varIn t v ∧ getB s v ≠ [] := by
  unfold kidsL
  rw [List.mem_map]
  constructor
  · rintro ⟨c, hc, rfl⟩
    obtain ⟨h1, h2⟩ := List.mem_filter.1 hc
    simp only [bndC, Bool.and_eq_true, decide_eq_true_eq, Bool.not_eq_true'] at h2
    exact ⟨⟨c, h1, h2.1, rfl⟩, fun e => by rw [e] at h2; simp at h2⟩
  · rintro ⟨⟨c, hc, hk, rfl⟩, hb⟩
    refine ⟨c, List.mem_filter.2 ⟨hc, ?_⟩, rfl⟩
    simp only [bndC, hk, decide_true, Bool.true_and, Bool.not_eq_true']
    cases hg : getB s c.n with
    | nil => exact absurd hg hb
    | cons _ _ => rfl

set_option maxRecDepth 100000 in
set_option maxHeartbeats 4000000 in
theorem boundIn_any (lo P p : Nat) (S : Nat → Prop) (s : List B) (t : List C) (w : World) (hB : Bnd lo w P S s) (hT : TreeAt S w p t) (hok : ∀ c ∈ t, okC c = true) (hlen : t.length ≤ 1048576) (hs : s.length ≤ 4194304) :
    Calls Try.prog 107 #[.pointer (some ⟨P, 0, none⟩), .pointer (some ⟨p, 0, none⟩)] w fun e w' => ∃ v, e = .returned v ∧ OwnI w' w.heap.size v (kidsL s t) ∧ Below w.heap.size w w' := by
  obtain ⟨z, hTre, hz⟩ := hT
  have hSl := hB.trees
  have hS := Tre.shp (f := 40) hSl hTre
  have hH : ∀ x ∈ z, Held w.heap.size w x ∧ okC x.2 = true := fun x hx => ⟨Tre.held (f := 40) hSl hTre x hx, hok x.2 (by rw [← hz]; exact List.mem_map.2 ⟨x, hx, rfl⟩)⟩
  obtain ⟨xs, hxs⟩ := lift_sub z hH
  obtain ⟨i0, hi, hz0, hz1, hz2⟩ := info_parts Try.infoInt
  have hPl := hB.lt
  refine (callsIn_wide (n := 5)).1 ?_
  refine callsIn_of_wp_marks Try.func107 rfl trivial ?_ rfl
  simp only [Try.ntmps107, List.size_toArray, List.length_cons, List.length_nil, Nat.reduceAdd, Nat.reduceSub, Array.replicate_succ, Array.replicate_zero, List.push_toArray, List.append_toArray, List.nil_append, List.cons_append]
  gi_wp2_with (refine ⟨trivial, ?_⟩; gi_at_call 115; refine (nodes_in Fence.wide _ trivial rfl _ _).mono ?_; rintro e w' ⟨rfl, rfl⟩)
  have bP := Boxed.new w 97 (.pointer (some ⟨P, 0, none⟩))
  have bO := Boxed.new (w.alloc (.cells #[.pointer (some ⟨P, 0, none⟩)] 97)) 87 (.slice none 0 0)
  have bN := Boxed.new ((w.alloc (.cells #[.pointer (some ⟨P, 0, none⟩)] 97)).alloc (.cells #[.slice none 0 0] 87)) 69 (.pointer (some ⟨p, 0, none⟩))
  rw [World.size_alloc] at bO
  rw [World.size_alloc, World.size_alloc] at bN
  have hB0 : Below w.heap.size w (((w.alloc (.cells #[.pointer (some ⟨P, 0, none⟩)] 97)).alloc (.cells #[.slice none 0 0] 87)).alloc (.cells #[.pointer (some ⟨p, 0, none⟩)] 69)) := (((Below.refl _ w).alloc (Nat.le_refl _) _).alloc (by simp) _).alloc (by simp; omega) _
  have hxl : xs.length ≤ 1048576 := by
    have h1 := congrArg List.length hxs
    have h2 := congrArg List.length hz
    simp at h1 h2
    omega
  refine wpIn_rangeFunc_ownG rfl (by omega) (gf := 121) (lb := #[.pointer (some ⟨w.heap.size + 1 + 1, 0, none⟩)]) rfl trivial (enters_of Try.func121 (by kernel_rfl) rfl)
    (nodes_stops (fun x : {x : Nat × C // Held w.heap.size w x ∧ okC x.2 = true} => x.1.1) Fence.wide rfl _ trivial trivial rfl (w.heap.size + 1 + 1) w.heap.size 40 p _ xs _ (by simp) (by simp; omega) bN.cell (hS.below hB0) (by rw [← hxs]; simp)) kpsK_t (kpsK_b (by simp; omega)) (Below.refl _ _) (fun _ => rfl)
    (fun pre W => ((∃ v, Boxed W (w.heap.size + 1) 87 v ∧ W.ownsRow w.heap.size 3 1 v (kidsL s (pre.map (·.1.2))).length (nums (kidsL s (pre.map (·.1.2)))) ∧ True) ∧ Boxed W w.heap.size 97 (.pointer (some ⟨P, 0, none⟩))) ∧ Below w.heap.size w W)
    (fun _ _ _ => False)
    (OwnFrom.and (OwnFrom.and (Own.from (holdsRow_own w.heap.size (w.heap.size + 1) 87 3 1 (fun pre : List {x : Nat × C // Held w.heap.size w x ∧ okC x.2 = true} => (kidsL s (pre.map (·.1.2))).length) (fun pre => nums (kidsL s (pre.map (·.1.2)))) (fun pre v => True)) _) (Own.from (boxed_own w.heap.size 97 (fun _ => .pointer (some ⟨P, 0, none⟩))) _)) (ownFrom_below (Nat.le_refl _) (by simp; omega)))
    (fun _ _ _ _ _ hs _ _ => hs)
    ⟨⟨⟨_, bO.alloc _, World.ownsRow_nil _ _ _ _, trivial⟩, (bP.alloc _).alloc _⟩, hB0⟩
    (fun x => { tmps := #[.pointer (some ⟨P, 0, none⟩), .pointer (some ⟨p, 0, none⟩), .pointer (some ⟨w.heap.size, 0, none⟩), undef, .slice none 0 0, .pointer (some ⟨w.heap.size + 1, 0, none⟩), .pointer (some ⟨x.1.1, 0, none⟩), .pointer (some ⟨p, 0, none⟩), .func (.func 121) #[] #[.pointer (some ⟨w.heap.size + 1 + 1, 0, none⟩)], .pointer (some ⟨x.1.1, 0, none⟩), undef, undef, undef, undef, undef, undef, undef, undef, undef, undef, undef, undef, undef, undef, undef, undef, undef, undef, undef, undef, undef, undef, undef, undef, undef], defers := [] }) ?assign ?body ?done ?stop
  case assign =>
    intro l x W K hK
    gi_wp2
    exact hK
  case body =>
    rintro l pre x W ⟨⟨⟨v, hv, hrow, _⟩, hbP⟩, hBw⟩ hlt
    obtain ⟨⟨g, c⟩, hx, hcok⟩ := x
    obtain ⟨_, h0, h1, h2⟩ := hx.below hBw
    dsimp only at h0 h1 h2 hcok
    have hcP := hbP.cell
    have hc := hv.cell
    have hBd := (hB.below hBw).drew
    by_cases hk : c.k = 1
    · have hkb : (c.k == 1) = true := by simpa using hk
      have hwf : (Lit.int .i64 c.n).wf = true := WalkArith.wf_i64 (by have := (okC1 hk).1 hcok; omega)
      have HG := hide (get_any lo P S s c.n W.drew hs hBd hwf)
      by_cases hg0 : getB s c.n = []
      · have HG0 := hide hg0
        have hbc : bndC s c = false := by simp [bndC, hg0]
        have HKN := hide (kidsL_one_no hbc)
        have HFIN : Hid (KeepsFrom (((w.alloc (.cells #[.pointer (some ⟨P, 0, none⟩)] 97)).alloc (.cells #[.slice none 0 0] 87)).alloc (.cells #[.pointer (some ⟨p, 0, none⟩)] 69)).heap.size W W.drew ∧ KpS w.heap.size W W.drew ∧ (((∃ v, Boxed W.drew (w.heap.size + 1) 87 v ∧ W.drew.ownsRow w.heap.size 3 1 v (kidsL s ((pre ++ [(⟨(g, c), hx, hcok⟩ : {x : Nat × C // Held w.heap.size w x ∧ okC x.2 = true})]).map (·.1.2))).length (nums (kidsL s ((pre ++ [(⟨(g, c), hx, hcok⟩ : {x : Nat × C // Held w.heap.size w x ∧ okC x.2 = true})]).map (·.1.2)))) ∧ True) ∧ Boxed W.drew w.heap.size 97 (.pointer (some ⟨P, 0, none⟩))) ∧ Below w.heap.size w W.drew)) := by
          refine ⟨(KeepsOthers.drew W).from _, KpS.of_below ((Below.refl _ W).drew), ⟨⟨v, hv, ?_, trivial⟩, hbP⟩, hBw.drew⟩
          rw [List.map_append, kidsL_append, show kidsL s ([(⟨(g, c), hx, hcok⟩ : {x : Nat × C // Held w.heap.size w x ∧ okC x.2 = true})].map (·.1.2)) = [] from unhide HKN, List.append_nil]
          exact World.ownsRow.drew hrow
        clear hk hg0 hbc
        gi_wp2
        refine region_in (fun w' => w' = W.drew) (by kernel_rfl) (by intro o ho c; simp at ho; rcases ho with (rfl | ho) <;> first | (simp; done) | (revert ho; intro ho; repeat' (rcases ho with (rfl | ho))) <;> simp_all) ?_
        refine wpAnyH_take (i := 0) (v := ?v0) rfl (by kernel_rfl) (by kernel_rfl) (by kernel_rfl) (fun _ _ _ h => quiet_panic h) (Or.inl ⟨by rfl, ?y0⟩) rfl ?_
        case y0 => (intro w' hw'; subst hw'; go_simp; first | done | with_reducible rfl)
        simp only [Act.put, List.getElem_toArray, List.getElem_cons_zero, List.getElem_cons_succ, List.setIfInBounds_toArray, List.set_cons_zero, List.set_cons_succ]
        refine wpAnyH_take (i := 1) (v := ?v1) rfl (by kernel_rfl) (by kernel_rfl) (by kernel_rfl) (fun _ _ _ h => quiet_panic h) (Or.inl ⟨by rfl, ?y1⟩) rfl ?_
        case y1 => (intro w' hw'; subst hw'; go_simp; first | done | with_reducible rfl)
        simp only [Act.put, List.getElem_toArray, List.getElem_cons_zero, List.getElem_cons_succ, List.setIfInBounds_toArray, List.set_cons_zero, List.set_cons_succ]
        refine wpAnyH_take (i := 2) (v := ?v2) rfl (by kernel_rfl) (by kernel_rfl) (by kernel_rfl) (fun _ _ _ h => quiet_panic h) (Or.inl ⟨by rfl, ?y2⟩) rfl ?_
        case y2 => (intro w' hw'; subst hw'; go_simp; first | done | with_reducible rfl)
        simp only [Act.put, List.getElem_toArray, List.getElem_cons_zero, List.getElem_cons_succ, List.setIfInBounds_toArray, List.set_cons_zero, List.set_cons_succ]
        refine wpAnyH_take (i := 3) (v := ?v3) rfl (by kernel_rfl) (by kernel_rfl) (by kernel_rfl) (fun _ _ _ h => quiet_panic h) (Or.inl ⟨by rfl, ?y3⟩) rfl ?_
        case y3 => (intro w' hw'; subst hw'; go_simp; first | done | with_reducible rfl)
        simp only [Act.put, List.getElem_toArray, List.getElem_cons_zero, List.getElem_cons_succ, List.setIfInBounds_toArray, List.set_cons_zero, List.set_cons_succ]
        refine wpAnyH_take (i := 4) (v := ?v4) rfl (by kernel_rfl) (by kernel_rfl) (by kernel_rfl) (fun _ _ _ h => quiet_panic h) (Or.inl ⟨by rfl, ?y4⟩) rfl ?_
        case y4 => (intro w' hw'; subst hw'; go_simp; first | done | with_reducible rfl)
        simp only [Act.put, List.getElem_toArray, List.getElem_cons_zero, List.getElem_cons_succ, List.setIfInBounds_toArray, List.set_cons_zero, List.set_cons_succ]
        refine wpAnyH_take (i := 5) (v := (.bool true)) rfl (by kernel_rfl) (by kernel_rfl) (by kernel_rfl) (fun _ _ _ h => quiet_panic h) (Or.inl ⟨by rfl, ?y5⟩) rfl ?_
        case y5 => (intro w' hw'; subst hw'; go_simp; first | done | with_reducible rfl)
        simp only [Act.put, List.getElem_toArray, List.getElem_cons_zero, List.getElem_cons_succ, List.setIfInBounds_toArray, List.set_cons_zero, List.set_cons_succ]
        refine wpAnyH_take (i := 6) (v := (.bool true)) rfl (by kernel_rfl) (by kernel_rfl) (by kernel_rfl) (fun _ _ _ h => quiet_panic h) (Or.inl ⟨by rfl, ?y6⟩) rfl ?_
        case y6 => (intro w' hw'; subst hw'; go_simp; first | done | with_reducible rfl)
        simp only [Act.put, List.getElem_toArray, List.getElem_cons_zero, List.getElem_cons_succ, List.setIfInBounds_toArray, List.set_cons_zero, List.set_cons_succ]
        refine wpAnyH_take (i := 7) (v := ?v7) rfl (by kernel_rfl) (by kernel_rfl) (by kernel_rfl) (fun _ _ _ h => quiet_panic h) (Or.inl ⟨by rfl, ?y7⟩) rfl ?_
        case y7 => (intro w' hw'; subst hw'; go_simp; first | done | with_reducible rfl)
        simp only [Act.put, List.getElem_toArray, List.getElem_cons_zero, List.getElem_cons_succ, List.setIfInBounds_toArray, List.set_cons_zero, List.set_cons_succ]
        refine wpAnyH_take (i := 8) (v := ?v8) rfl (by kernel_rfl) (by kernel_rfl) (by kernel_rfl) (fun _ _ _ h => quiet_panic h) (Or.inl ⟨by rfl, ?y8⟩) rfl ?_
        case y8 => (intro w' hw'; subst hw'; go_simp; first | done | with_reducible rfl)
        simp only [Act.put, List.getElem_toArray, List.getElem_cons_zero, List.getElem_cons_succ, List.setIfInBounds_toArray, List.set_cons_zero, List.set_cons_succ]
        refine wpAnyH_take (i := 9) (v := ?v9) rfl (by kernel_rfl) (by kernel_rfl) (by kernel_rfl) (fun _ _ _ h => quiet_panic h) (Or.inl ⟨by rfl, ?y9⟩) rfl ?_
        case y9 => (intro w' hw'; subst hw'; go_simp; first | done | with_reducible rfl)
        simp only [Act.put, List.getElem_toArray, List.getElem_cons_zero, List.getElem_cons_succ, List.setIfInBounds_toArray, List.set_cons_zero, List.set_cons_succ]
        refine wpAnyH_take (i := 10) (v := ?v10) rfl (by kernel_rfl) (by kernel_rfl) (by kernel_rfl) (fun _ _ _ h => quiet_panic h) (Or.inl ⟨by rfl, ?y10⟩) rfl ?_
        case y10 => (intro w' hw'; subst hw'; go_simp; first | done | with_reducible rfl)
        simp only [Act.put, List.getElem_toArray, List.getElem_cons_zero, List.getElem_cons_succ, List.setIfInBounds_toArray, List.set_cons_zero, List.set_cons_succ]
        refine wpAnyH_take (i := 11) (v := ?v11) rfl (by kernel_rfl) (by kernel_rfl) (by kernel_rfl) (fun _ _ _ h => quiet_panic h) (Or.inl ⟨by rfl, ?y11⟩) rfl ?_
        case y11 => (intro w' hw'; subst hw'; go_simp; first | done | with_reducible rfl)
        simp only [Act.put, List.getElem_toArray, List.getElem_cons_zero, List.getElem_cons_succ, List.setIfInBounds_toArray, List.set_cons_zero, List.set_cons_succ]
        refine wpAnyH_take (i := 12) (v := ?v12) rfl (by kernel_rfl) (by kernel_rfl) (by kernel_rfl) (fun _ _ _ h => quiet_panic h) (Or.inl ⟨by rfl, ?y12⟩) rfl ?_
        case y12 => (intro w' hw'; subst hw'; go_simp; first | done | with_reducible rfl)
        simp only [Act.put, List.getElem_toArray, List.getElem_cons_zero, List.getElem_cons_succ, List.setIfInBounds_toArray, List.set_cons_zero, List.set_cons_succ]
        refine wpAnyH_ready (rs := [13]) (by kernel_rfl) (by simp) ?_
        refine AllReadyH.cons rfl (fun K hK => ?_) AllReadyH.nil
        go_simp
        refine (unhide HG).mono ?_
        rintro e w1' ⟨rfl, hgo⟩
        obtain rfl : e = .returned (.pointer none) := by
          rcases hgo with h | h
          · exact h.2
          · exact absurd (unhide HG0) h.1
        clear HG hgo
        refine Shut.out hK _ _ rfl (fun _ => ?_)
        clear hK K
        try (simp only [Act.put, List.getElem_toArray, List.getElem_cons_zero, List.getElem_cons_succ, List.setIfInBounds_toArray, List.set_cons_zero, List.set_cons_succ])
        refine wpAnyH_take (i := 14) (v := (.bool false)) rfl (by kernel_rfl) (by kernel_rfl) (by kernel_rfl) (fun _ _ _ h => quiet_panic h) (Or.inl ⟨by rfl, ?y14⟩) rfl ?_
        case y14 => (intro w' hw'; subst hw'; go_simp; first | done | with_reducible rfl)
        simp only [Act.put, List.getElem_toArray, List.getElem_cons_zero, List.getElem_cons_succ, List.setIfInBounds_toArray, List.set_cons_zero, List.set_cons_succ]
        refine wpAnyH_take (i := 15) (v := (.bool false)) rfl (by kernel_rfl) (by kernel_rfl) (by kernel_rfl) (fun _ _ _ h => quiet_panic h) (Or.inl ⟨by rfl, ?y15⟩) rfl ?_
        case y15 => (intro w' hw'; subst hw'; go_simp; first | done | with_reducible rfl)
        simp only [Act.put, List.getElem_toArray, List.getElem_cons_zero, List.getElem_cons_succ, List.setIfInBounds_toArray, List.set_cons_zero, List.set_cons_succ]
        refine wpAnyH_done (by kernel_rfl) ?_ _
        refine ⟨rfl, ?_⟩
        gi_wp2
        first | exact unhide HFIN | (obtain ⟨q1, q2, ⟨⟨v', q3, q4, _⟩, q5⟩, q6⟩ := unhide HFIN; exact ⟨by simpa using q1, q2, ⟨⟨v', q3, q4⟩, q5⟩, q6⟩)
      · have HG0 := hide hg0
        have hbc : bndC s c = true := by simp [bndC, hk]; exact hg0
        have HKY := hide (kidsL_one_yes hbc)
        have hmx : Try.prog.follows .mixedOrders = true := by kernel_rfl
        have hkl : (kidsL s (pre.map (·.1.2))).length ≤ 1048576 := by have := kidsL_len s (pre.map (·.1.2)); simp at this; omega
        obtain ⟨g', cap', w1, hr, hown', hgrow, hat, hgl⟩ := run_append_lies (P := Try.prog) (W.drew.drew.alloc (.cells #[.int .i64 c.n] 3)) 87 87 w.heap.size 3 i0 _ 1 8 Try.underlying87 hi hz0 hz1 hz2 rfl (by decide) v (kidsL s (pre.map (·.1.2))).length _ (World.ownsRow.alloc (World.ownsRow.drew (World.ownsRow.drew hrow)) _) ⟨W.heap.size, 0, none⟩ 1 1 [.int .i64 c.n] rfl (cell_one_new W.drew.drew _ _) (by simp [Value.oneCell']) (by omega) (by unfold maxLen; omega) (by omega) (by have := hBw.size; simp; omega) _ rfl
        have hr' : Sem.run Try.prog (Builtin.append_ #[87, 87] 87 #[v, .slice (some ⟨W.heap.size, 0, none⟩) 1 1]) (W.alloc (.cells #[.int .i64 c.n] 3)).drew.drew = .ok (.slice (some ⟨g', 0, none⟩) ((kidsL s (pre.map (·.1.2))).length + 1) cap') w1 := hr
        clear hr
        obtain ⟨hv1, hv2, hr2, hk2, hb2⟩ := Boxed.appended (W := W.drew.drew) (show Boxed W.drew.drew _ _ v from hv) (by decide) (World.ownsRow.drew (World.ownsRow.drew hrow)) hBw.size (Nat.le_succ _) hown' hgrow
        have hc1 := hv1.cell
        have hf1 := hv1.frozen
        have hlt0 := hv.lt
        have hcA : (W.alloc (.cells #[.int .i64 c.n] 3)).cell? ⟨w.heap.size + 1, 0, none⟩ = some v := (hv.alloc _).cell
        have hbP2 : Boxed (w1.setCell ⟨w.heap.size + 1, 0, none⟩ (.slice (some ⟨g', 0, none⟩) ((kidsL s (pre.map (·.1.2))).length + 1) cap')) w.heap.size 97 (.pointer (some ⟨P, 0, none⟩)) := by
          have hne : some w.heap.size ≠ v.ownBlock := by
            rcases hrow.2 with ⟨rfl, _⟩ | ⟨g0, cap0, cur0, rfl, _, hgb, _⟩
            · simp [Value.ownBlock]
            · intro e'
              obtain rfl : w.heap.size = g0 := by simpa [Value.ownBlock] using e'
              have := (show W.heap[w.heap.size]? = _ from hbP).symm.trans hgb
              simp at this
          have hl := hbP.lt
          exact (Below.heap_setCell _ _ _ _ (by simp)).trans ((hgrow.block _ (by simp; omega) hne).trans ((Below.heap_alloc _ _ _ (by exact hl)).trans hbP))
        have HFIN : Hid (KeepsFrom (((w.alloc (.cells #[.pointer (some ⟨P, 0, none⟩)] 97)).alloc (.cells #[.slice none 0 0] 87)).alloc (.cells #[.pointer (some ⟨p, 0, none⟩)] 69)).heap.size W (w1.setCell ⟨w.heap.size + 1, 0, none⟩ (.slice (some ⟨g', 0, none⟩) ((kidsL s (pre.map (·.1.2))).length + 1) cap')) ∧ KpS w.heap.size W (w1.setCell ⟨w.heap.size + 1, 0, none⟩ (.slice (some ⟨g', 0, none⟩) ((kidsL s (pre.map (·.1.2))).length + 1) cap')) ∧ (((∃ v, Boxed (w1.setCell ⟨w.heap.size + 1, 0, none⟩ (.slice (some ⟨g', 0, none⟩) ((kidsL s (pre.map (·.1.2))).length + 1) cap')) (w.heap.size + 1) 87 v ∧ (w1.setCell ⟨w.heap.size + 1, 0, none⟩ (.slice (some ⟨g', 0, none⟩) ((kidsL s (pre.map (·.1.2))).length + 1) cap')).ownsRow w.heap.size 3 1 v (kidsL s ((pre ++ [(⟨(g, c), hx, hcok⟩ : {x : Nat × C // Held w.heap.size w x ∧ okC x.2 = true})]).map (·.1.2))).length (nums (kidsL s ((pre ++ [(⟨(g, c), hx, hcok⟩ : {x : Nat × C // Held w.heap.size w x ∧ okC x.2 = true})]).map (·.1.2)))) ∧ True) ∧ Boxed (w1.setCell ⟨w.heap.size + 1, 0, none⟩ (.slice (some ⟨g', 0, none⟩) ((kidsL s (pre.map (·.1.2))).length + 1) cap')) w.heap.size 97 (.pointer (some ⟨P, 0, none⟩))) ∧ Below w.heap.size w (w1.setCell ⟨w.heap.size + 1, 0, none⟩ (.slice (some ⟨g', 0, none⟩) ((kidsL s (pre.map (·.1.2))).length + 1) cap')))) := by
          refine ⟨((KeepsOthers.drew W).trans ((KeepsOthers.drew W.drew).trans hk2)).from _, KpS.of_below ((((Below.refl _ W).drew).drew).trans hb2), ⟨⟨_, hv2, ?_, trivial⟩, hbP2⟩, hBw.trans ((((Below.refl _ W).drew).drew).trans hb2)⟩
          rw [List.map_append, kidsL_append, show kidsL s ([(⟨(g, c), hx, hcok⟩ : {x : Nat × C // Held w.heap.size w x ∧ okC x.2 = true})].map (·.1.2)) = [c.n] from unhide HKY, List.length_append, show nums (kidsL s (pre.map (·.1.2)) ++ [c.n]) = nums (kidsL s (pre.map (·.1.2))) ++ [.int .i64 c.n] by simp [nums]]
          exact hr2
        clear hk hg0 hbc
        gi_wp2
        refine region_in (fun w' => w' = W.drew) (by kernel_rfl) (by intro o ho c; simp at ho; rcases ho with (rfl | ho) <;> first | (simp; done) | (revert ho; intro ho; repeat' (rcases ho with (rfl | ho))) <;> simp_all) ?_
        refine wpAnyH_take (i := 0) (v := ?v0) rfl (by kernel_rfl) (by kernel_rfl) (by kernel_rfl) (fun _ _ _ h => quiet_panic h) (Or.inl ⟨by rfl, ?y0⟩) rfl ?_
        case y0 => (intro w' hw'; subst hw'; go_simp; first | done | with_reducible rfl)
        simp only [Act.put, List.getElem_toArray, List.getElem_cons_zero, List.getElem_cons_succ, List.setIfInBounds_toArray, List.set_cons_zero, List.set_cons_succ]
        refine wpAnyH_take (i := 1) (v := ?v1) rfl (by kernel_rfl) (by kernel_rfl) (by kernel_rfl) (fun _ _ _ h => quiet_panic h) (Or.inl ⟨by rfl, ?y1⟩) rfl ?_
        case y1 => (intro w' hw'; subst hw'; go_simp; first | done | with_reducible rfl)
        simp only [Act.put, List.getElem_toArray, List.getElem_cons_zero, List.getElem_cons_succ, List.setIfInBounds_toArray, List.set_cons_zero, List.set_cons_succ]
        refine wpAnyH_take (i := 2) (v := ?v2) rfl (by kernel_rfl) (by kernel_rfl) (by kernel_rfl) (fun _ _ _ h => quiet_panic h) (Or.inl ⟨by rfl, ?y2⟩) rfl ?_
        case y2 => (intro w' hw'; subst hw'; go_simp; first | done | with_reducible rfl)
        simp only [Act.put, List.getElem_toArray, List.getElem_cons_zero, List.getElem_cons_succ, List.setIfInBounds_toArray, List.set_cons_zero, List.set_cons_succ]
        refine wpAnyH_take (i := 3) (v := ?v3) rfl (by kernel_rfl) (by kernel_rfl) (by kernel_rfl) (fun _ _ _ h => quiet_panic h) (Or.inl ⟨by rfl, ?y3⟩) rfl ?_
        case y3 => (intro w' hw'; subst hw'; go_simp; first | done | with_reducible rfl)
        simp only [Act.put, List.getElem_toArray, List.getElem_cons_zero, List.getElem_cons_succ, List.setIfInBounds_toArray, List.set_cons_zero, List.set_cons_succ]
        refine wpAnyH_take (i := 4) (v := ?v4) rfl (by kernel_rfl) (by kernel_rfl) (by kernel_rfl) (fun _ _ _ h => quiet_panic h) (Or.inl ⟨by rfl, ?y4⟩) rfl ?_
        case y4 => (intro w' hw'; subst hw'; go_simp; first | done | with_reducible rfl)
        simp only [Act.put, List.getElem_toArray, List.getElem_cons_zero, List.getElem_cons_succ, List.setIfInBounds_toArray, List.set_cons_zero, List.set_cons_succ]
        refine wpAnyH_take (i := 5) (v := (.bool true)) rfl (by kernel_rfl) (by kernel_rfl) (by kernel_rfl) (fun _ _ _ h => quiet_panic h) (Or.inl ⟨by rfl, ?y5⟩) rfl ?_
        case y5 => (intro w' hw'; subst hw'; go_simp; first | done | with_reducible rfl)
        simp only [Act.put, List.getElem_toArray, List.getElem_cons_zero, List.getElem_cons_succ, List.setIfInBounds_toArray, List.set_cons_zero, List.set_cons_succ]
        refine wpAnyH_take (i := 6) (v := (.bool true)) rfl (by kernel_rfl) (by kernel_rfl) (by kernel_rfl) (fun _ _ _ h => quiet_panic h) (Or.inl ⟨by rfl, ?y6⟩) rfl ?_
        case y6 => (intro w' hw'; subst hw'; go_simp; first | done | with_reducible rfl)
        simp only [Act.put, List.getElem_toArray, List.getElem_cons_zero, List.getElem_cons_succ, List.setIfInBounds_toArray, List.set_cons_zero, List.set_cons_succ]
        refine wpAnyH_take (i := 7) (v := ?v7) rfl (by kernel_rfl) (by kernel_rfl) (by kernel_rfl) (fun _ _ _ h => quiet_panic h) (Or.inl ⟨by rfl, ?y7⟩) rfl ?_
        case y7 => (intro w' hw'; subst hw'; go_simp; first | done | with_reducible rfl)
        simp only [Act.put, List.getElem_toArray, List.getElem_cons_zero, List.getElem_cons_succ, List.setIfInBounds_toArray, List.set_cons_zero, List.set_cons_succ]
        refine wpAnyH_take (i := 8) (v := ?v8) rfl (by kernel_rfl) (by kernel_rfl) (by kernel_rfl) (fun _ _ _ h => quiet_panic h) (Or.inl ⟨by rfl, ?y8⟩) rfl ?_
        case y8 => (intro w' hw'; subst hw'; go_simp; first | done | with_reducible rfl)
        simp only [Act.put, List.getElem_toArray, List.getElem_cons_zero, List.getElem_cons_succ, List.setIfInBounds_toArray, List.set_cons_zero, List.set_cons_succ]
        refine wpAnyH_take (i := 9) (v := ?v9) rfl (by kernel_rfl) (by kernel_rfl) (by kernel_rfl) (fun _ _ _ h => quiet_panic h) (Or.inl ⟨by rfl, ?y9⟩) rfl ?_
        case y9 => (intro w' hw'; subst hw'; go_simp; first | done | with_reducible rfl)
        simp only [Act.put, List.getElem_toArray, List.getElem_cons_zero, List.getElem_cons_succ, List.setIfInBounds_toArray, List.set_cons_zero, List.set_cons_succ]
        refine wpAnyH_take (i := 10) (v := ?v10) rfl (by kernel_rfl) (by kernel_rfl) (by kernel_rfl) (fun _ _ _ h => quiet_panic h) (Or.inl ⟨by rfl, ?y10⟩) rfl ?_
        case y10 => (intro w' hw'; subst hw'; go_simp; first | done | with_reducible rfl)
        simp only [Act.put, List.getElem_toArray, List.getElem_cons_zero, List.getElem_cons_succ, List.setIfInBounds_toArray, List.set_cons_zero, List.set_cons_succ]
        refine wpAnyH_take (i := 11) (v := ?v11) rfl (by kernel_rfl) (by kernel_rfl) (by kernel_rfl) (fun _ _ _ h => quiet_panic h) (Or.inl ⟨by rfl, ?y11⟩) rfl ?_
        case y11 => (intro w' hw'; subst hw'; go_simp; first | done | with_reducible rfl)
        simp only [Act.put, List.getElem_toArray, List.getElem_cons_zero, List.getElem_cons_succ, List.setIfInBounds_toArray, List.set_cons_zero, List.set_cons_succ]
        refine wpAnyH_take (i := 12) (v := ?v12) rfl (by kernel_rfl) (by kernel_rfl) (by kernel_rfl) (fun _ _ _ h => quiet_panic h) (Or.inl ⟨by rfl, ?y12⟩) rfl ?_
        case y12 => (intro w' hw'; subst hw'; go_simp; first | done | with_reducible rfl)
        simp only [Act.put, List.getElem_toArray, List.getElem_cons_zero, List.getElem_cons_succ, List.setIfInBounds_toArray, List.set_cons_zero, List.set_cons_succ]
        refine wpAnyH_ready (rs := [13]) (by kernel_rfl) (by simp) ?_
        refine AllReadyH.cons rfl (fun K hK => ?_) AllReadyH.nil
        go_simp
        refine (unhide HG).mono ?_
        rintro e w1' ⟨rfl, hgo⟩
        obtain ⟨p', rfl⟩ : ∃ p', e = .returned (.pointer (some ⟨p', 0, none⟩)) := by
          rcases hgo with h | ⟨_, p', h, _⟩
          · exact absurd h.1 (unhide HG0)
          · exact ⟨p', h⟩
        clear HG hgo
        refine Shut.out hK _ _ rfl (fun _ => ?_)
        clear hK K
        try (simp only [Act.put, List.getElem_toArray, List.getElem_cons_zero, List.getElem_cons_succ, List.setIfInBounds_toArray, List.set_cons_zero, List.set_cons_succ])
        refine wpAnyH_take (i := 14) (v := (.bool true)) rfl (by kernel_rfl) (by kernel_rfl) (by kernel_rfl) (fun _ _ _ h => quiet_panic h) (Or.inl ⟨by rfl, ?y14⟩) rfl ?_
        case y14 => (intro w' hw'; subst hw'; go_simp; first | done | with_reducible rfl)
        simp only [Act.put, List.getElem_toArray, List.getElem_cons_zero, List.getElem_cons_succ, List.setIfInBounds_toArray, List.set_cons_zero, List.set_cons_succ]
        refine wpAnyH_take (i := 15) (v := (.bool true)) rfl (by kernel_rfl) (by kernel_rfl) (by kernel_rfl) (fun _ _ _ h => quiet_panic h) (Or.inl ⟨by rfl, ?y15⟩) rfl ?_
        case y15 => (intro w' hw'; subst hw'; go_simp; first | done | with_reducible rfl)
        simp only [Act.put, List.getElem_toArray, List.getElem_cons_zero, List.getElem_cons_succ, List.setIfInBounds_toArray, List.set_cons_zero, List.set_cons_succ]
        refine wpAnyH_done (by kernel_rfl) ?_ _
        refine ⟨rfl, ?_⟩
        gi_wp2
        gi_region_with_o (fail)
        all_goals gi_wp2
        all_goals (first | exact unhide HFIN | (obtain ⟨q1, q2, ⟨⟨v', q3, q4, _⟩, q5⟩, q6⟩ := unhide HFIN; exact ⟨by simpa using q1, q2, ⟨⟨v', q3, q4⟩, q5⟩, q6⟩))
    · have hkb : (c.k == 1) = false := by simpa using hk
      have hbc : bndC s c = false := by simp [bndC, hk]
      have HKN := hide (kidsL_one_no hbc)
      have HFIN : Hid (KeepsFrom (((w.alloc (.cells #[.pointer (some ⟨P, 0, none⟩)] 97)).alloc (.cells #[.slice none 0 0] 87)).alloc (.cells #[.pointer (some ⟨p, 0, none⟩)] 69)).heap.size W W.drew ∧ KpS w.heap.size W W.drew ∧ (((∃ v, Boxed W.drew (w.heap.size + 1) 87 v ∧ W.drew.ownsRow w.heap.size 3 1 v (kidsL s ((pre ++ [(⟨(g, c), hx, hcok⟩ : {x : Nat × C // Held w.heap.size w x ∧ okC x.2 = true})]).map (·.1.2))).length (nums (kidsL s ((pre ++ [(⟨(g, c), hx, hcok⟩ : {x : Nat × C // Held w.heap.size w x ∧ okC x.2 = true})]).map (·.1.2)))) ∧ True) ∧ Boxed W.drew w.heap.size 97 (.pointer (some ⟨P, 0, none⟩))) ∧ Below w.heap.size w W.drew)) := by
        refine ⟨(KeepsOthers.drew W).from _, KpS.of_below ((Below.refl _ W).drew), ⟨⟨v, hv, ?_, trivial⟩, hbP⟩, hBw.drew⟩
        rw [List.map_append, kidsL_append, show kidsL s ([(⟨(g, c), hx, hcok⟩ : {x : Nat × C // Held w.heap.size w x ∧ okC x.2 = true})].map (·.1.2)) = [] from unhide HKN, List.append_nil]
        exact World.ownsRow.drew hrow
      clear hk hbc
      gi_wp2
      refine region_in (fun w' => w' = W.drew) (by kernel_rfl) (by intro o ho c; simp at ho; rcases ho with (rfl | ho) <;> first | (simp; done) | (revert ho; intro ho; repeat' (rcases ho with (rfl | ho))) <;> simp_all) ?_
      refine wpAnyH_take (i := 0) (v := ?v0) rfl (by kernel_rfl) (by kernel_rfl) (by kernel_rfl) (fun _ _ _ h => quiet_panic h) (Or.inl ⟨by rfl, ?y0⟩) rfl ?_
      case y0 => (intro w' hw'; subst hw'; go_simp; first | done | with_reducible rfl)
      simp only [Act.put, List.getElem_toArray, List.getElem_cons_zero, List.getElem_cons_succ, List.setIfInBounds_toArray, List.set_cons_zero, List.set_cons_succ]
      refine wpAnyH_take (i := 1) (v := ?v1) rfl (by kernel_rfl) (by kernel_rfl) (by kernel_rfl) (fun _ _ _ h => quiet_panic h) (Or.inl ⟨by rfl, ?y1⟩) rfl ?_
      case y1 => (intro w' hw'; subst hw'; go_simp; first | done | with_reducible rfl)
      simp only [Act.put, List.getElem_toArray, List.getElem_cons_zero, List.getElem_cons_succ, List.setIfInBounds_toArray, List.set_cons_zero, List.set_cons_succ]
      refine wpAnyH_take (i := 2) (v := ?v2) rfl (by kernel_rfl) (by kernel_rfl) (by kernel_rfl) (fun _ _ _ h => quiet_panic h) (Or.inl ⟨by rfl, ?y2⟩) rfl ?_
      case y2 => (intro w' hw'; subst hw'; go_simp; first | done | with_reducible rfl)
      simp only [Act.put, List.getElem_toArray, List.getElem_cons_zero, List.getElem_cons_succ, List.setIfInBounds_toArray, List.set_cons_zero, List.set_cons_succ]
      refine wpAnyH_take (i := 3) (v := ?v3) rfl (by kernel_rfl) (by kernel_rfl) (by kernel_rfl) (fun _ _ _ h => quiet_panic h) (Or.inl ⟨by rfl, ?y3⟩) rfl ?_
      case y3 => (intro w' hw'; subst hw'; go_simp; first | done | with_reducible rfl)
      simp only [Act.put, List.getElem_toArray, List.getElem_cons_zero, List.getElem_cons_succ, List.setIfInBounds_toArray, List.set_cons_zero, List.set_cons_succ]
      refine wpAnyH_take (i := 4) (v := ?v4) rfl (by kernel_rfl) (by kernel_rfl) (by kernel_rfl) (fun _ _ _ h => quiet_panic h) (Or.inl ⟨by rfl, ?y4⟩) rfl ?_
      case y4 => (intro w' hw'; subst hw'; go_simp; first | done | with_reducible rfl)
      simp only [Act.put, List.getElem_toArray, List.getElem_cons_zero, List.getElem_cons_succ, List.setIfInBounds_toArray, List.set_cons_zero, List.set_cons_succ]
      refine wpAnyH_take (i := 5) (v := (.bool false)) rfl (by kernel_rfl) (by kernel_rfl) (by kernel_rfl) (fun _ _ _ h => quiet_panic h) (Or.inl ⟨by rfl, ?y5⟩) rfl ?_
      case y5 => (intro w' hw'; subst hw'; go_simp; first | done | with_reducible rfl)
      simp only [Act.put, List.getElem_toArray, List.getElem_cons_zero, List.getElem_cons_succ, List.setIfInBounds_toArray, List.set_cons_zero, List.set_cons_succ]
      refine wpAnyH_take (i := 6) (v := (.bool false)) rfl (by kernel_rfl) (by kernel_rfl) (by kernel_rfl) (fun _ _ _ h => quiet_panic h) (Or.inl ⟨by rfl, ?y6⟩) rfl ?_
      case y6 => (intro w' hw'; subst hw'; go_simp; first | done | with_reducible rfl)
      simp only [Act.put, List.getElem_toArray, List.getElem_cons_zero, List.getElem_cons_succ, List.setIfInBounds_toArray, List.set_cons_zero, List.set_cons_succ]
      refine wpAnyH_take (i := 7) (v := undef) rfl (by kernel_rfl) (by kernel_rfl) (by kernel_rfl) (fun _ _ _ h => quiet_panic h) (Or.inr ⟨by rfl, rfl⟩) rfl ?_
      simp only [Act.put, List.getElem_toArray, List.getElem_cons_zero, List.getElem_cons_succ, List.setIfInBounds_toArray, List.set_cons_zero, List.set_cons_succ]
      refine wpAnyH_take (i := 8) (v := undef) rfl (by kernel_rfl) (by kernel_rfl) (by kernel_rfl) (fun _ _ _ h => quiet_panic h) (Or.inr ⟨by rfl, rfl⟩) rfl ?_
      simp only [Act.put, List.getElem_toArray, List.getElem_cons_zero, List.getElem_cons_succ, List.setIfInBounds_toArray, List.set_cons_zero, List.set_cons_succ]
      refine wpAnyH_take (i := 9) (v := undef) rfl (by kernel_rfl) (by kernel_rfl) (by kernel_rfl) (fun _ _ _ h => quiet_panic h) (Or.inr ⟨by rfl, rfl⟩) rfl ?_
      simp only [Act.put, List.getElem_toArray, List.getElem_cons_zero, List.getElem_cons_succ, List.setIfInBounds_toArray, List.set_cons_zero, List.set_cons_succ]
      refine wpAnyH_take (i := 10) (v := undef) rfl (by kernel_rfl) (by kernel_rfl) (by kernel_rfl) (fun _ _ _ h => quiet_panic h) (Or.inr ⟨by rfl, rfl⟩) rfl ?_
      simp only [Act.put, List.getElem_toArray, List.getElem_cons_zero, List.getElem_cons_succ, List.setIfInBounds_toArray, List.set_cons_zero, List.set_cons_succ]
      refine wpAnyH_take (i := 11) (v := undef) rfl (by kernel_rfl) (by kernel_rfl) (by kernel_rfl) (fun _ _ _ h => quiet_panic h) (Or.inr ⟨by rfl, rfl⟩) rfl ?_
      simp only [Act.put, List.getElem_toArray, List.getElem_cons_zero, List.getElem_cons_succ, List.setIfInBounds_toArray, List.set_cons_zero, List.set_cons_succ]
      refine wpAnyH_take (i := 12) (v := undef) rfl (by kernel_rfl) (by kernel_rfl) (by kernel_rfl) (fun _ _ _ h => quiet_panic h) (Or.inr ⟨by rfl, rfl⟩) rfl ?_
      simp only [Act.put, List.getElem_toArray, List.getElem_cons_zero, List.getElem_cons_succ, List.setIfInBounds_toArray, List.set_cons_zero, List.set_cons_succ]
      refine wpAnyH_take (i := 13) (v := undef) rfl (by kernel_rfl) (by kernel_rfl) (by kernel_rfl) (fun _ _ _ h => quiet_panic h) (Or.inr ⟨by rfl, rfl⟩) rfl ?_
      simp only [Act.put, List.getElem_toArray, List.getElem_cons_zero, List.getElem_cons_succ, List.setIfInBounds_toArray, List.set_cons_zero, List.set_cons_succ]
      refine wpAnyH_take (i := 14) (v := undef) rfl (by kernel_rfl) (by kernel_rfl) (by kernel_rfl) (fun _ _ _ h => quiet_panic h) (Or.inr ⟨by rfl, rfl⟩) rfl ?_
      simp only [Act.put, List.getElem_toArray, List.getElem_cons_zero, List.getElem_cons_succ, List.setIfInBounds_toArray, List.set_cons_zero, List.set_cons_succ]
      refine wpAnyH_take (i := 15) (v := (.bool false)) rfl (by kernel_rfl) (by kernel_rfl) (by kernel_rfl) (fun _ _ _ h => quiet_panic h) (Or.inl ⟨by rfl, ?y15⟩) rfl ?_
      case y15 => (intro w' hw'; subst hw'; go_simp; first | done | with_reducible rfl)
      simp only [Act.put, List.getElem_toArray, List.getElem_cons_zero, List.getElem_cons_succ, List.setIfInBounds_toArray, List.set_cons_zero, List.set_cons_succ]
      refine wpAnyH_done (by kernel_rfl) ?_ _
      refine ⟨rfl, ?_⟩
      gi_wp2
      first | exact unhide HFIN | (obtain ⟨q1, q2, ⟨⟨v', q3, q4, _⟩, q5⟩, q6⟩ := unhide HFIN; exact ⟨by simpa using q1, q2, ⟨⟨v', q3, q4⟩, q5⟩, q6⟩)
  case done =>
    rintro D ys W hD rfl ⟨⟨⟨v, hv, hrow, _⟩, _⟩, hBw⟩ hK
    have hc := hv.cell
    have hO : OwnI W w.heap.size v (kidsL s t) := by unfold OwnI; rw [← hz, ← hxs, List.map_map]; exact hrow
    have hDl : D < W.heap.size := (Array.getElem?_eq_some_iff.1 hK).1
    gi_wp2
    refine ⟨by simp, .inl ⟨_, _, rfl, run_takeDeferred hK, ?_⟩⟩
    refine ⟨_, results_tmp rfl _ _ _, _, rfl, ?_, hBw.trans (belowK_b (w := w) (Nat.le_refl _) _ D _ _ (by simp at hD; omega) hK rfl rfl)⟩
    exact ownsRow_putObj hO _ hK rfl
  case stop =>
    rintro D c pre W _ _ h _
    exact h.elim
end Go.Proofs.Ytonpahhcfgdeoaa
