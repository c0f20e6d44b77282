/- The walk of tellBinds. -/
import Derived.Test.YtddhjafpacgdaaaQMS1MK1
import Derived.Test.YtddhjafpacgdaaaQMU1RW1FL4FL8
namespace Go.Proofs.Ytddhjafpacgdaaa
open Go.RowKit Go.Maps
set_option linter.unusedVariables false
set_option linter.unusedSimpArgs false

theorem ownB_push2 {W W2 : World} {lo : Nat} {v u : Value} {s : List B} {x : B} (h : OwnB W lo W.heap.size v s) (hk : ∀ k, lo ≤ k → k < W.heap.size → W2.heap[k]? = W.heap[k]?) (hz : W.heap.size ≤ W2.heap.size) (hlo : lo ≤ W.heap.size) (hu : OwnC W2 W.heap.size u x.t) :
    ∃ us, W2.ownsRow lo 51 2 v s.length (flatB s us) ∧ ∀ (W3 : World) (g' cap' : Nat), W3.ownsRow lo 51 2 (.slice (some ⟨g', 0, none⟩) (s.length + 1) cap') (s.length + 1) (flatB s us ++ [.int .i64 x.v, u]) → W2.grownBy W3 v.ownBlock → g' < W3.heap.size →
      OwnB W3 lo W3.heap.size (.slice (some ⟨g', 0, none⟩) (s.length + 1) cap') (s ++ [x]) := by
  obtain ⟨us, h1, h2, h3, h4, h5, h6⟩ := h
  have key : ∀ {e size n : Nat} {z : Value} {xs : List Value}, W.ownsRow lo e size z n xs → (∀ k, z.ownBlock = some k → k < W.heap.size) → W2.ownsRow lo e size z n xs := fun hz hl => own_block hz (fun k e => hk k (hz.lt k e).1 (hl k e))
  refine ⟨us, key h2 h6, fun W3 g' cap' hown hg hgl => ?_⟩
  have := ownB_push (x := x) (hi := W.heap.size) (hi' := W3.heap.size) h1 (key h2 h6) (fun i q q' => key (h3 i q q') (fun k e => h5 _ (List.getElem_mem q') k e)) h4 h5 (own_lo hu (fun k e => Nat.le_trans hlo (hu.lt k e).1)) (fun k e => (hu.lt k e).1) hown (fun k q q' => hg.block k q q') hg.size hgl
  simpa using this


theorem okC_fit' {c : C} (h : okC c = true) : c.s.size ≤ maxLen := by
  have hk : c.s.size ≤ 8 := by
    unfold okC at h
    split at h
    · simp only [Bool.and_eq_true, decide_eq_true_eq] at h; omega
    · split at h
      · simp only [Bool.and_eq_true, decide_eq_true_eq] at h; omega
      · split at h
        · simp [nameB] at h; omega
        · cases h
  unfold maxLen; omega

set_option maxRecDepth 100000 in
set_option maxHeartbeats 2000000 in
theorem tellBinds_any (lo P : Nat) (S : Nat → Prop) (s : List B) (w : World) (ov : Value) (hl : s.length ≤ 1048576) (hB0 : Bnd lo w P S s) (htr : ∀ x ∈ s, trm x.t = true) (hc : w.cell? ⟨P, 0, none⟩ = some ov) :
    Calls Try.prog 78 #[ov] w fun e w' => ∃ v, e = .returned v ∧ OwnB w' w.heap.size w'.heap.size v s ∧ Below w.heap.size w w' := by
  obtain ⟨i0, hi, hz0, hz1, hz2⟩ := info_parts Try.infoSub
  have hSl := hB0.trees
  obtain ⟨ov', M, n, D, rs, h1, _, _, h4, _, _, _, h9, _⟩ := hB0
  rw [h1.cells.1] at hc
  obtain rfl := Option.some.inj hc
  have hrl := h4.2
  obtain ⟨ao, cap, rfl, hrw⟩ := h4.shape
  clear h1 h4 hc
  go_enter Try.func78, Try.ntmps78
  go_wp2
  go_loopw [3, 8] (fun o i wr => ∃ (k : Nat), k ≤ s.length ∧ i = .int .i64 k ∧ OwnB wr w.heap.size wr.heap.size o (s.take k) ∧ Below w.heap.size w wr) (fun _ i _ => s.length - (intOf i).toNat)
  case atStart => exact ⟨0, Nat.zero_le _, rfl, ⟨[], rfl, by simpa [flatB] using World.ownsRow_nil w w.heap.size 51 2, fun i h => by simp at h, by simp, by simp, fun k e => by simp [Value.ownBlock] at e⟩, Below.refl _ _⟩
  case round =>
    obtain ⟨k, hk, rfl, hO, hB⟩ := hrel
    by_cases hlt : k < s.length
    · obtain ⟨g, rfl, hcl⟩ := hrw.resolve_left (fun h => by rw [h] at hlt; simp at hlt)
      obtain ⟨p0, p1⟩ := hcl k hlt (by omega)
      have hgl0 : g < w.heap.size := World.block_lt_of_cell? w ⟨g, _, none⟩ p0
      have d0 := (hB.cell (p := ⟨g, k * 2, none⟩) hgl0).trans p0
      have d1 := (hB.cell (p := ⟨g, k * 2 + 1, none⟩) hgl0).trans p1
      have hT := h9 k hlt (by omega)
      have hty := htr _ (List.getElem_mem hlt)
      have hyl := trm_len hty
      have HTK : Hid (s.take (k + 1) = s.take k ++ [s[k]]) := List.take_succ_eq_append_getElem hlt
      obtain ⟨y, hy⟩ : ∃ y, y = s[k] := ⟨_, rfl⟩
      rw [← hy] at d0 hT hty hyl HTK
      generalize rs[k] = rp at d1 hT
      clear hy p0 p1
      obtain ⟨z, hTre, hz⟩ := hT
      have hsz := hB.size
      have hdl : (s.take k).length = k := by simp; omega
      have hBa : Below w.heap.size w (wr.alloc (.cells #[.int .i64 y.v, .pointer (some ⟨rp, 0, none⟩)] 124)).drew := (hB.alloc hB.size _).drew
      have hTre1 := Tre.kept (f := 40) (W' := (wr.alloc (.cells #[.int .i64 y.v, .pointer (some ⟨rp, 0, none⟩)] 124)).drew) (fun _ h => h) (fun b hb => hBa.block b (hSl b hb)) hTre
      have hSl1 : ∀ b, S b → b < (wr.alloc (.cells #[.int .i64 y.v, .pointer (some ⟨rp, 0, none⟩)] 124)).drew.heap.size := fun b hb => by have := hSl b hb; show b < (wr.alloc _).heap.size; simp; omega
      have hzl : z.length ≤ 1048576 := by have := congrArg List.length hz; simp at this; omega
      have HL := hide (list_any 40 rp z y.t (hide hz) _ (Tre.shp (f := 40) hSl1 hTre1) (fun x hx => Tre.held (f := 40) hSl1 hTre1 x hx) hzl (fun c hc => (okC_fit' ((trm_Trm hty).2 c hc))))
      have e0 : (wr.alloc (.cells #[.int .i64 y.v, .pointer (some ⟨rp, 0, none⟩)] 124)).cell? ⟨wr.heap.size, 0, none⟩ = some (.int .i64 y.v) := by simp [go_sem]
      have e1 : (wr.alloc (.cells #[.int .i64 y.v, .pointer (some ⟨rp, 0, none⟩)] 124)).cell? ⟨wr.heap.size, 1, none⟩ = some (.pointer (some ⟨rp, 0, none⟩)) := by simp [go_sem]
      obtain ⟨oa, oc, rfl, _⟩ := hO.shape
      rw [hdl] at hO
      clear hTre hTre1 hSl1 hBa hz
      go_wp2
      refine wp_region_any (by kernel_rfl) (wpAny_of_held (S := fun w' => w'.cell? ⟨wr.heap.size, 0, none⟩ = some (.int .i64 y.v) ∧ w'.cell? ⟨wr.heap.size, 1, none⟩ = some (.pointer (some ⟨rp, 0, none⟩))) _ _ _ _ ?_)
      refine wpAnyH_take (i := 0) (v := ?v0) rfl (by kernel_rfl) (by kernel_rfl) (by kernel_rfl) (fun _ _ _ h => h) (Or.inl ⟨by rfl, ?y0⟩) (⟨e0, e1⟩) ?_
      case y0 => (intro w' hw'; obtain ⟨k1, k2⟩ := hw'; go_simp; first | done | with_reducible rfl)
      simp only [Act.put, List.getElem_toArray, List.getElem_cons_zero, List.getElem_cons_succ, List.setIfInBounds_toArray, List.set_cons_zero, List.set_cons_succ]
      refine wpAnyH_take (i := 1) (v := ?v1) rfl (by kernel_rfl) (by kernel_rfl) (by kernel_rfl) (fun _ _ _ h => h) (Or.inl ⟨by rfl, ?y1⟩) (⟨e0, e1⟩) ?_
      case y1 => (intro w' hw'; obtain ⟨k1, k2⟩ := hw'; go_simp; first | done | with_reducible rfl)
      simp only [Act.put, List.getElem_toArray, List.getElem_cons_zero, List.getElem_cons_succ, List.setIfInBounds_toArray, List.set_cons_zero, List.set_cons_succ]
      refine wpAnyH_take (i := 2) (v := (.int .i64 y.v)) rfl (by kernel_rfl) (by kernel_rfl) (by kernel_rfl) (fun _ _ _ h => h) (Or.inl ⟨by rfl, ?y2⟩) (⟨e0, e1⟩) ?_
      case y2 => (intro w' hw'; obtain ⟨k1, k2⟩ := hw'; go_simp; first | done | with_reducible rfl)
      simp only [Act.put, List.getElem_toArray, List.getElem_cons_zero, List.getElem_cons_succ, List.setIfInBounds_toArray, List.set_cons_zero, List.set_cons_succ]
      refine wpAnyH_take (i := 3) (v := ?v3) rfl (by kernel_rfl) (by kernel_rfl) (by kernel_rfl) (fun _ _ _ h => h) (Or.inl ⟨by rfl, ?y3⟩) (⟨e0, e1⟩) ?_
      case y3 => (intro w' hw'; obtain ⟨k1, k2⟩ := hw'; go_simp; first | done | with_reducible rfl)
      simp only [Act.put, List.getElem_toArray, List.getElem_cons_zero, List.getElem_cons_succ, List.setIfInBounds_toArray, List.set_cons_zero, List.set_cons_succ]
      refine wpAnyH_take (i := 4) (v := (.pointer (some ⟨rp, 0, none⟩))) rfl (by kernel_rfl) (by kernel_rfl) (by kernel_rfl) (fun _ _ _ h => h) (Or.inl ⟨by rfl, ?y4⟩) (⟨e0, e1⟩) ?_
      case y4 => (intro w' hw'; obtain ⟨k1, k2⟩ := hw'; go_simp; first | done | with_reducible rfl)
      simp only [Act.put, List.getElem_toArray, List.getElem_cons_zero, List.getElem_cons_succ, List.setIfInBounds_toArray, List.set_cons_zero, List.set_cons_succ]
      refine wpAnyH_ready (rs := [5]) (by kernel_rfl) (by simp) ?_
      refine AllReadyH.cons rfl (fun K hK => ?_) AllReadyH.nil
      go_simp
      refine (unhide HL).mono ?_
      clear HL
      rintro e w2 ⟨vl, rfl, hOl, hb2⟩
      have hda : (wr.alloc (.cells #[.int .i64 y.v, .pointer (some ⟨rp, 0, none⟩)] 124)).drew.heap.size = wr.heap.size + 1 := by
        show (wr.alloc _).heap.size = _
        simp
      have hs2 := hb2.size
      rw [hda] at hs2
      have q0 := (hb2.cell (p := ⟨wr.heap.size, 0, none⟩) (by show wr.heap.size < (wr.alloc _).heap.size; simp)).trans e0
      have q1 := (hb2.cell (p := ⟨wr.heap.size, 1, none⟩) (by show wr.heap.size < (wr.alloc _).heap.size; simp)).trans e1
      refine Shut.out hK _ _ (⟨q0, q1⟩) (fun _ => ?_)
      clear hK K
      try (simp only [Act.put, List.getElem_toArray, List.getElem_cons_zero, List.getElem_cons_succ, List.setIfInBounds_toArray, List.set_cons_zero, List.set_cons_succ])
      obtain ⟨vg, vc, rfl, _⟩ := row_cells' (show OwnC w2 _ vl y.t from by rw [listed, if_pos hty] at hOl; exact hOl) (by omega)
      refine wpAnyH_take (i := 6) (v := ?v6) rfl (by kernel_rfl) (by kernel_rfl) (by kernel_rfl) (fun _ _ _ h => h) (Or.inl ⟨by rfl, ?y6⟩) (⟨q0, q1⟩) ?_
      case y6 => (intro w' hw'; obtain ⟨k1, k2⟩ := hw'; go_simp; first | done | with_reducible rfl)
      simp only [Act.put, List.getElem_toArray, List.getElem_cons_zero, List.getElem_cons_succ, List.setIfInBounds_toArray, List.set_cons_zero, List.set_cons_succ]
      have hb3 := cell_below w2 (.cells #[.int .i64 y.v, .slice (some ⟨vg, 0, none⟩) y.t.length vc] 51)
      refine wpAnyH_ready (rs := [7]) (by kernel_rfl) (by simp) ?_
      refine AllReadyH.cons rfl (fun K hK => ?_) AllReadyH.nil
      go_simp
      refine Shut.out hK _ _ (⟨(hb3.cell (p := ⟨wr.heap.size, 0, none⟩) (by show wr.heap.size < w2.heap.size; omega)).trans q0, (hb3.cell (p := ⟨wr.heap.size, 1, none⟩) (by show wr.heap.size < w2.heap.size; omega)).trans q1⟩) (fun _ => ?_)
      clear hK K
      try (simp only [Act.put, List.getElem_toArray, List.getElem_cons_zero, List.getElem_cons_succ, List.setIfInBounds_toArray, List.set_cons_zero, List.set_cons_succ])
      obtain ⟨us, hrow, hfin⟩ := ownB_push2 (x := y) (W2 := w2.alloc (.cells #[.int .i64 y.v, .slice (some ⟨vg, 0, none⟩) y.t.length vc] 51)) hO (fun k _ hk => (Below.heap_alloc _ _ _ (by omega)).trans ((hb2.block k (by show k < (wr.alloc _).heap.size; simp; omega)).trans (Below.heap_alloc wr _ k hk))) (by simp; omega) hB.size (own_below (own_lo (show OwnC w2 _ (.slice (some ⟨vg, 0, none⟩) y.t.length vc) y.t from by rw [listed, if_pos hty] at hOl; exact hOl) (fun k e => by have h7 := (World.ownsRow.lt hOl k e).1; omega)) (cell_below _ _))
      refine wpAnyH_ready (rs := [8]) (by kernel_rfl) (by simp) ?_
      refine AllReadyH.cons rfl (fun K hK => ?_) AllReadyH.nil
      refine step_append_lies _ rfl _ _ 38 rfl w.heap.size 51 i0 _ 2 32 Try.underlying38 hi hz0 hz1 hz2 rfl (by decide) _ k _ rfl (by rw [hdl] at hrow; exact hrow) ⟨w2.heap.size, 0, none⟩ 1 1 [.int .i64 y.v, .slice (some ⟨vg, 0, none⟩) y.t.length vc] rfl rfl (two_cells w2 _ _ _ _ rfl) (by simp [Value.oneCell']) (by omega) (by unfold maxLen; omega) (by omega) (by simp; have := hB.size; omega) (w2.heap.size + 1) (by simp) ?_; intro g' cap' w4 hown hgrow hat hgl; have hgrow : (w2.alloc (.cells #[.int .i64 y.v, .slice (some ⟨vg, 0, none⟩) y.t.length vc] 51)).grownBy w4 (Value.slice oa k oc).ownBlock := hgrow
      have hB4 : Below w.heap.size w w4 := ((bstep (bstep (hB.alloc hB.size _).drew hb2) hb3)).grown hgrow (by have := hB.size; simp; omega) (fun k e => by obtain ⟨us', _, h2', _⟩ := hO; exact (h2'.lt k e).1)
      have hz4 := hgrow.size
      simp at hz4
      have q4 : w4.cell? ⟨wr.heap.size, 0, none⟩ = some (.int .i64 y.v) ∧ w4.cell? ⟨wr.heap.size, 1, none⟩ = some (.pointer (some ⟨rp, 0, none⟩)) := by
        have hbk : w4.heap[wr.heap.size]? = (w2.alloc (.cells #[.int .i64 y.v, .slice (some ⟨vg, 0, none⟩) y.t.length vc] 51)).heap[wr.heap.size]? := hgrow.block _ (by simp; omega) (fun e => by obtain ⟨us', _, _, _, _, _, h6'⟩ := hO; have := h6' _ e.symm; omega)
        exact ⟨(World.cell?_of_block (a := ⟨wr.heap.size, 0, none⟩) hbk).trans ((hb3.cell (p := ⟨wr.heap.size, 0, none⟩) (by show wr.heap.size < w2.heap.size; omega)).trans q0), (World.cell?_of_block (a := ⟨wr.heap.size, 1, none⟩) hbk).trans ((hb3.cell (p := ⟨wr.heap.size, 1, none⟩) (by show wr.heap.size < w2.heap.size; omega)).trans q1)⟩
      refine Shut.out hK _ _ (q4) (fun _ => ?_)
      clear hK K
      try (simp only [Act.put, List.getElem_toArray, List.getElem_cons_zero, List.getElem_cons_succ, List.setIfInBounds_toArray, List.set_cons_zero, List.set_cons_succ])
      refine wpAnyH_take (i := 9) (v := ?v9) rfl (by kernel_rfl) (by kernel_rfl) (by kernel_rfl) (fun _ _ _ h => h) (Or.inl ⟨by rfl, ?y9⟩) (q4) ?_
      case y9 => (intro w' hw'; obtain ⟨k1, k2⟩ := hw'; go_simp; first | done | with_reducible rfl)
      simp only [Act.put, List.getElem_toArray, List.getElem_cons_zero, List.getElem_cons_succ, List.setIfInBounds_toArray, List.set_cons_zero, List.set_cons_succ]
      refine wpAnyH_done (by kernel_rfl) ?_ _
      rw [hdl] at hfin
      have hF := hfin w4 g' cap' hown hgrow hgl
      rw [← unhide HTK] at hF
      have HF := hide hF
      have HB4 := hide hB4
      clear hF hown hgrow hat hgl hrow hfin hO hOl hb2 hb3 q0 q1 q4 e0 e1 hB4
      go_wp2
      go_roundw
      case rel => exact ⟨k + 1, by omega, by go_num, unhide HF, unhide HB4⟩
      case measure => simp [intOf]; omega
    · have e : k = s.length := by omega
      subst e
      rw [List.take_length] at hO
      obtain ⟨oa, oc, rfl, _⟩ := hO.shape
      go_wp2
      go_ret
      exact ⟨_, rfl, hO, hB⟩
end Go.Proofs.Ytddhjafpacgdaaa
