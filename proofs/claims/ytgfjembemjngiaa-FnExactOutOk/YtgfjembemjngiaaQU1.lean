/- Rows that are known to be places; bindings with one more; the walk of the specification's l2Copy. -/
import Derived.Test.YtgfjembemjngiaaQSL1SO1
import Derived.Test.YtgfjembemjngiaaQFL1
import Derived.Deep.RegionHeld3
namespace Go.Proofs.Ytgfjembemjngiaa
open Go.RowKit
set_option linter.unusedVariables false
set_option linter.unusedSimpArgs false

theorem rows_apart {w : World} {base base' e e' size size' n n' : Nat} {v v' : Value} {xs xs' : List Value} (h : w.ownsRow base e size v n xs) (h' : w.ownsRow base' e' size' v' n' xs') (he : e ≠ e') : v.ownBlock = none ∨ v.ownBlock ≠ v'.ownBlock := by
  rcases h.2 with ⟨rfl, _⟩ | ⟨g, cap, cur, rfl, _, hg, _⟩
  · exact .inl rfl
  · rcases h'.2 with ⟨rfl, _⟩ | ⟨g', cap', cur', rfl, _, hg', _⟩
    · right; simp [Value.ownBlock]
    · right
      simp only [Value.ownBlock, ne_eq, Option.some.injEq]
      rintro rfl
      rw [hg] at hg'
      simp at hg'
      exact he hg'.2

/-- Bindings with one more. -/
theorem ownB_push {W W1 : World} {lo hi hi' : Nat} {v u : Value} {s : List B} {us : List Value} {x : B} {g' cap' : Nat} (h1 : us.length = s.length) (h2 : W.ownsRow lo 127 2 v s.length (flatB s us)) (h3 : ∀ i, (h : i < s.length) → (h' : i < us.length) → OwnC W lo us[i] s[i].t) (h4 : (us.filterMap Value.ownBlock).Nodup)
    (h5 : ∀ u ∈ us, ∀ k, u.ownBlock = some k → k < hi) (hu : OwnC W lo u x.t) (hun : ∀ k, u.ownBlock = some k → hi ≤ k)
    (hown : W1.ownsRow lo 127 2 (.slice (some ⟨g', 0, none⟩) (s.length + 1) cap') (s.length + 1) (flatB s us ++ [.int .i64 x.v, u])) (hk : ∀ k, k < W.heap.size → some k ≠ v.ownBlock → W1.heap[k]? = W.heap[k]?) (hs : W.heap.size ≤ hi') (hg : g' < hi') :
    OwnB W1 lo hi' (.slice (some ⟨g', 0, none⟩) (s ++ [x]).length cap') (s ++ [x]) := by
  have key : ∀ {z : Value} {t : List C}, OwnC W lo z t → OwnC W1 lo z t := fun {z t} hz => own_block hz (fun k e => hk k (hz.lt k e).2 (fun e' => by
    rcases rows_apart hz h2 (by decide) with h | h
    · rw [h] at e; cases e
    · exact h (e.trans e')))
  refine ⟨us ++ [u], by simp [h1], ?_, fun i hi' hi'' => ?_, ?_, fun z hz k e => ?_, fun k e => ?_⟩
  · rw [flatB_append s [x] us [u] h1, List.length_append]
    exact hown
  · by_cases hl : i < s.length
    · rw [List.getElem_append_left hl, List.getElem_append_left (by omega)]
      exact key (h3 i hl (by omega))
    · have e : i = s.length := by simp at hi'; omega
      subst e
      rw [List.getElem_append_right (by omega), List.getElem_append_right (by omega)]
      simpa [h1] using key hu
  · rw [List.filterMap_append, List.nodup_append]
    refine ⟨h4, ?_, fun a ha b hb => ?_⟩
    · cases e : u.ownBlock <;> simp [e]
    · obtain ⟨z, hz, e⟩ := List.mem_filterMap.1 ha
      have q1 := h5 z hz a e
      have q2 : u.ownBlock = some b := by simpa using hb
      have q3 := hun b q2
      omega
  · rcases List.mem_append.1 hz with hz | hz
    · obtain ⟨i, hi1, rfl⟩ := List.getElem_of_mem hz
      have := ((h3 i (by omega) hi1).lt k e).2
      omega
    · simp at hz; subst hz
      have := (hu.lt k e).2
      omega
  · have : g' = k := by simpa [Value.ownBlock] using e
    omega

/-- A slice of places, in a block of places. -/
def TdT (w : World) (v : Value) (t : List C) : Prop := ∃ b off cap cur, v = .slice (some ⟨b, off, none⟩) t.length cap ∧ At w b off t ∧ t.length ≤ cap ∧ cap ≤ maxLen ∧ w.heap[b]? = some (.cells cur 81)

theorem TdT.lt {w : World} {v : Value} {t : List C} (h : TdT w v t) : ∀ k, v.ownBlock = some k → k < w.heap.size := by
  obtain ⟨b, off, cap, cur, rfl, _, _, _, hh⟩ := h
  intro k e
  have : b = k := by simpa [Value.ownBlock] using e
  subst this
  exact (Array.getElem?_eq_some_iff.1 hh).1
theorem TdT.kept {w w' : World} {v : Value} {t : List C} (h : TdT w v t) (hk : ∀ k, v.ownBlock = some k → w'.heap[k]? = w.heap[k]?) : TdT w' v t := by
  obtain ⟨b, off, cap, cur, rfl, hA, h1, h2, hh⟩ := h
  have e := hk b (by simp [Value.ownBlock])
  exact ⟨b, off, cap, cur, rfl, hA.kept e, h1, h2, e.trans hh⟩
theorem TdT.below {w w' : World} {v : Value} {t : List C} (h : TdT w v t) (hb : Below w.heap.size w w') : TdT w' v t := h.kept (fun k e => hb.block k (h.lt k e))
theorem TdT.apart {w w' : World} {v sv : Value} {t : List C} {base n : Nat} {xs : List Value} {e size : Nat} (h : TdT w v t) (hg : w.grownBy w' sv.ownBlock) (ho : w.ownsRow base e size sv n xs) (he : e ≠ 81) : TdT w' v t := by
  refine h.kept (fun k ek => hg.block k (h.lt k ek) (fun e' => ?_))
  obtain ⟨b, off, cap, cur, rfl, hA, h1, h2, hh⟩ := h
  have hbk : b = k := by simpa [Value.ownBlock] using ek
  subst hbk
  rcases ho.2 with ⟨rfl, _⟩ | ⟨g, cap', cur', rfl, _, hg', _⟩
  · simp [Value.ownBlock] at e'
  · have : b = g := by simpa [Value.ownBlock] using e'
    subst this
    rw [hh] at hg'
    simp at hg'
    exact he hg'.2.symm
theorem own_tdT {w : World} {base : Nat} {v : Value} {t : List C} (h : OwnC w base v t) (hp : 1 ≤ t.length) : TdT w v t := by
  have h' := h
  rcases h.2 with ⟨e, hn⟩ | ⟨g, cap, cur, e, hg, hh, hc, hm, _⟩
  · omega
  · subst e
    exact ⟨g, 0, cap, cur, rfl, owns_at h' rfl, hc, hm, hh⟩

theorem two_at (w : World) (x y : Value) (T N : Nat) (hN : w.heap.size = N) : ∀ j u, [x, y][j]? = some u → (w.alloc (.cells #[x, y] T)).cell? ((⟨N, 0, none⟩ : Addr).add j) = some u := by
  subst hN
  intro j u h
  match j with
  | 0 => simp at h; subst h; simp [go_sem, Addr.add]
  | 1 => simp at h; subst h; simp [go_sem, Addr.add]
  | j + 2 => simp at h

set_option maxRecDepth 100000 in
set_option maxHeartbeats 2000000 in
theorem l2Copy_some (b off cap : Nat) (s : List B) (w : World) (hm : s.length ≤ 1048576) (hm2 : ∀ x ∈ s, 1 ≤ x.t.length ∧ x.t.length ≤ 1048576) (hA : AtB w b off s) :
    Calls Try.prog 74 #[.slice (some ⟨b, off, none⟩) s.length cap] w fun e w' => ∃ v, e = .returned v ∧ OwnB w' w.heap.size w'.heap.size v s ∧ Below w.heap.size w w' := by
  obtain ⟨i0, hi, hz0, hz1, hz2⟩ := info_parts Try.infoSub
  obtain ⟨j0, hj, hy0, hy1, hy2⟩ := info_parts Try.infoCell
  go_enter Try.func74, Try.ntmps74
  go_wp2
  go_loopw [3, 4] (fun o i wr => ∃ (k : Nat), k ≤ s.length ∧ i = .int .i64 k ∧ OwnB wr w.heap.size wr.heap.size o (s.take k) ∧ Below w.heap.size w wr) (fun _ i _ => s.length - (intOf i).toNat)
  case atStart => exact ⟨0, Nat.zero_le _, rfl, ⟨[], rfl, by simpa [flatB] using World.ownsRow_made (base := w.heap.size) (e := 127) (size := 2) w #[] 0 (Nat.le_refl _) (by simp [maxLen]) rfl, fun i h => by simp at h, by simp, by simp, fun k e => by simp [Value.ownBlock] at e; simp; omega⟩, cell_below _ _⟩
  case round =>
    obtain ⟨k, hk, rfl, hO, hB⟩ := hrel
    by_cases hlt : k < s.length
    · obtain ⟨c0, ao, cp, c1, hc, hcm, hR⟩ := hA k hlt
      have hml := hm2 _ (List.getElem_mem hlt)
      have HTK : Hid (s.take (k + 1) = s.take k ++ [s[k]]) := List.take_succ_eq_append_getElem hlt
      obtain ⟨y, hy⟩ : ∃ y, y = s[k] := ⟨_, rfl⟩
      rw [← hy] at c0 c1 hR hc hml HTK
      clear hy
      obtain ⟨tb, toff, rfl, hAt⟩ : ∃ b off, ao = some ⟨b, off, none⟩ ∧ At w b off y.t := by
        rcases hR with h | h
        · rw [h] at hml; simp at hml
        · exact h
      obtain ⟨us, h1, h2, h3, h4, h5, h6⟩ := hO
      have hdl : (s.take k).length = k := by simp; omega
      have hR1 : Below wr.heap.size wr (wr.drew.alloc (.cells #[] 81)) := bstep (Below.refl _ wr).drew (cell_below _ _)
      have hS1 : Below w.heap.size w (wr.drew.alloc (.cells #[] 81)) := bstep hB hR1
      have hT2 : At (wr.drew.alloc (.cells #[] 81)) tb toff y.t := hAt.below hS1
      have hsz := hB.size
      have hbl : b < w.heap.size := World.block_lt_of_cell? w ⟨b, _, none⟩ c0
      go_wp2
      refine wp_region_any (by kernel_rfl) (wpAny_of_held (S := fun w' => Below w.heap.size w w') _ _ _ _ ?_)
      refine wpAnyH_take (i := 0) (v := ?v0) rfl (by kernel_rfl) (by kernel_rfl) (by kernel_rfl) (fun _ _ _ h => h) (Or.inl ⟨by rfl, ?y0⟩) (hB.drew) ?_
      case y0 => (intro w' hw'; have f0 := (hw'.cell (p := ⟨b, off + k * 2, none⟩) hbl).trans c0; have f1 := (hw'.cell (p := ⟨b, off + k * 2 + 1, none⟩) hbl).trans c1; go_simp; first | done | with_reducible rfl)
      simp only [Act.put, List.getElem_toArray, List.getElem_cons_zero, List.getElem_cons_succ, List.setIfInBounds_toArray, List.set_cons_zero, List.set_cons_succ]
      refine wpAnyH_take (i := 1) (v := ?v1) rfl (by kernel_rfl) (by kernel_rfl) (by kernel_rfl) (fun _ _ _ h => h) (Or.inl ⟨by rfl, ?y1⟩) (hB.drew) ?_
      case y1 => (intro w' hw'; have f0 := (hw'.cell (p := ⟨b, off + k * 2, none⟩) hbl).trans c0; have f1 := (hw'.cell (p := ⟨b, off + k * 2 + 1, none⟩) hbl).trans c1; go_simp; first | done | with_reducible rfl)
      simp only [Act.put, List.getElem_toArray, List.getElem_cons_zero, List.getElem_cons_succ, List.setIfInBounds_toArray, List.set_cons_zero, List.set_cons_succ]
      refine wpAnyH_take (i := 2) (v := ?v2) rfl (by kernel_rfl) (by kernel_rfl) (by kernel_rfl) (fun _ _ _ h => h) (Or.inl ⟨by rfl, ?y2⟩) (hB.drew) ?_
      case y2 => (intro w' hw'; have f0 := (hw'.cell (p := ⟨b, off + k * 2, none⟩) hbl).trans c0; have f1 := (hw'.cell (p := ⟨b, off + k * 2 + 1, none⟩) hbl).trans c1; go_simp; first | done | with_reducible rfl)
      simp only [Act.put, List.getElem_toArray, List.getElem_cons_zero, List.getElem_cons_succ, List.setIfInBounds_toArray, List.set_cons_zero, List.set_cons_succ]
      refine wpAnyH_take (i := 3) (v := ?v3) rfl (by kernel_rfl) (by kernel_rfl) (by kernel_rfl) (fun _ _ _ h => h) (Or.inl ⟨by rfl, ?y3⟩) (hB.drew) ?_
      case y3 => (intro w' hw'; have f0 := (hw'.cell (p := ⟨b, off + k * 2, none⟩) hbl).trans c0; have f1 := (hw'.cell (p := ⟨b, off + k * 2 + 1, none⟩) hbl).trans c1; go_simp; first | done | with_reducible rfl)
      simp only [Act.put, List.getElem_toArray, List.getElem_cons_zero, List.getElem_cons_succ, List.setIfInBounds_toArray, List.set_cons_zero, List.set_cons_succ]
      refine wpAnyH_take (i := 4) (v := ?v4) rfl (by kernel_rfl) (by kernel_rfl) (by kernel_rfl) (fun _ _ _ h => h) (Or.inl ⟨by rfl, ?y4⟩) (hB.drew) ?_
      case y4 => (intro w' hw'; have f0 := (hw'.cell (p := ⟨b, off + k * 2, none⟩) hbl).trans c0; have f1 := (hw'.cell (p := ⟨b, off + k * 2 + 1, none⟩) hbl).trans c1; go_simp; first | done | with_reducible rfl)
      simp only [Act.put, List.getElem_toArray, List.getElem_cons_zero, List.getElem_cons_succ, List.setIfInBounds_toArray, List.set_cons_zero, List.set_cons_succ]
      refine wpAnyH_take (i := 5) (v := .int .i64 y.v) rfl (by kernel_rfl) (by kernel_rfl) (by kernel_rfl) (fun _ _ _ h => h) (Or.inl ⟨by rfl, ?y5⟩) (hB.drew) ?_
      case y5 => (intro w' hw'; have f0 := (hw'.cell (p := ⟨b, off + k * 2, none⟩) hbl).trans c0; have f1 := (hw'.cell (p := ⟨b, off + k * 2 + 1, none⟩) hbl).trans c1; go_simp; first | done | with_reducible rfl)
      simp only [Act.put, List.getElem_toArray, List.getElem_cons_zero, List.getElem_cons_succ, List.setIfInBounds_toArray, List.set_cons_zero, List.set_cons_succ]
      refine wpAnyH_take (i := 7) (v := ?v7) rfl (by kernel_rfl) (by kernel_rfl) (by kernel_rfl) (fun _ _ _ h => h) (Or.inl ⟨by rfl, ?y7⟩) (hB.drew) ?_
      case y7 => (intro w' hw'; have f0 := (hw'.cell (p := ⟨b, off + k * 2, none⟩) hbl).trans c0; have f1 := (hw'.cell (p := ⟨b, off + k * 2 + 1, none⟩) hbl).trans c1; go_simp; first | done | with_reducible rfl)
      simp only [Act.put, List.getElem_toArray, List.getElem_cons_zero, List.getElem_cons_succ, List.setIfInBounds_toArray, List.set_cons_zero, List.set_cons_succ]
      refine wpAnyH_take (i := 8) (v := ?v8) rfl (by kernel_rfl) (by kernel_rfl) (by kernel_rfl) (fun _ _ _ h => h) (Or.inl ⟨by rfl, ?y8⟩) (hB.drew) ?_
      case y8 => (intro w' hw'; have f0 := (hw'.cell (p := ⟨b, off + k * 2, none⟩) hbl).trans c0; have f1 := (hw'.cell (p := ⟨b, off + k * 2 + 1, none⟩) hbl).trans c1; go_simp; first | done | with_reducible rfl)
      simp only [Act.put, List.getElem_toArray, List.getElem_cons_zero, List.getElem_cons_succ, List.setIfInBounds_toArray, List.set_cons_zero, List.set_cons_succ]
      refine wpAnyH_take (i := 9) (v := ?v9) rfl (by kernel_rfl) (by kernel_rfl) (by kernel_rfl) (fun _ _ _ h => h) (Or.inl ⟨by rfl, ?y9⟩) (hB.drew) ?_
      case y9 => (intro w' hw'; have f0 := (hw'.cell (p := ⟨b, off + k * 2, none⟩) hbl).trans c0; have f1 := (hw'.cell (p := ⟨b, off + k * 2 + 1, none⟩) hbl).trans c1; go_simp; first | done | with_reducible rfl)
      simp only [Act.put, List.getElem_toArray, List.getElem_cons_zero, List.getElem_cons_succ, List.setIfInBounds_toArray, List.set_cons_zero, List.set_cons_succ]
      refine wpAnyH_take (i := 10) (v := ?v10) rfl (by kernel_rfl) (by kernel_rfl) (by kernel_rfl) (fun _ _ _ h => h) (Or.inl ⟨by rfl, ?y10⟩) (hB.drew) ?_
      case y10 => (intro w' hw'; have f0 := (hw'.cell (p := ⟨b, off + k * 2, none⟩) hbl).trans c0; have f1 := (hw'.cell (p := ⟨b, off + k * 2 + 1, none⟩) hbl).trans c1; go_simp; first | done | with_reducible rfl)
      simp only [Act.put, List.getElem_toArray, List.getElem_cons_zero, List.getElem_cons_succ, List.setIfInBounds_toArray, List.set_cons_zero, List.set_cons_succ]
      refine wpAnyH_take (i := 11) (v := .slice (some ⟨tb, toff, none⟩) y.t.length cp) rfl (by kernel_rfl) (by kernel_rfl) (by kernel_rfl) (fun _ _ _ h => h) (Or.inl ⟨by rfl, ?y11⟩) (hB.drew) ?_
      case y11 => (intro w' hw'; have f0 := (hw'.cell (p := ⟨b, off + k * 2, none⟩) hbl).trans c0; have f1 := (hw'.cell (p := ⟨b, off + k * 2 + 1, none⟩) hbl).trans c1; go_simp; first | done | with_reducible rfl)
      simp only [Act.put, List.getElem_toArray, List.getElem_cons_zero, List.getElem_cons_succ, List.setIfInBounds_toArray, List.set_cons_zero, List.set_cons_succ]
      refine wpAnyH_ready (rs := [6]) (by kernel_rfl) (by simp) ?_
      refine AllReadyH.cons rfl (fun K hK => ?_) AllReadyH.nil
      go_simp
      refine Shut.out hK _ _ (hS1) (fun _ => ?_)
      clear hK K
      try (simp only [Act.put, List.getElem_toArray, List.getElem_cons_zero, List.getElem_cons_succ, List.setIfInBounds_toArray, List.set_cons_zero, List.set_cons_succ])
      refine wpAnyH_ready (rs := [12]) (by kernel_rfl) (by simp) ?_
      refine AllReadyH.cons rfl (fun K hK => ?_) AllReadyH.nil
      refine step_append_lies _ rfl _ _ 23 rfl wr.heap.size 81 j0 _ 3 32 Try.underlying23 hj hy0 hy1 hy2 rfl (by decide) _ 0 [] rfl (World.ownsRow_made _ #[] 0 (by simp) (by simp [maxLen]) rfl) ⟨tb, toff, none⟩ y.t.length cp (flat y.t) rfl (flat_length y.t) hT2.each (flat_one y.t) (by omega) (by unfold maxLen; omega) (by omega) (by simp) (wr.heap.size + 1) (by simp) ?_; intro g1 cap1 w1 hown1 hgr1 hat1 hgl1; have hgr1 : (wr.drew.alloc (.cells #[] 81)).grownBy w1 (some wr.heap.size) := hgr1; have hb1 : Below wr.heap.size wr w1 := hR1.grown hgr1 (by simp) (fun k e => by simp at e; omega)
      refine Shut.out hK _ _ (bstep hB hb1) (fun _ => ?_)
      clear hK K
      try (simp only [Act.put, List.getElem_toArray, List.getElem_cons_zero, List.getElem_cons_succ, List.setIfInBounds_toArray, List.set_cons_zero, List.set_cons_succ])
      refine wpAnyH_ready (rs := [13]) (by kernel_rfl) (by simp) ?_
      refine AllReadyH.cons rfl (fun K hK => ?_) AllReadyH.nil
      go_simp
      refine Shut.out hK _ _ (bstep hB hb1) (fun _ => ?_)
      clear hK K
      try (simp only [Act.put, List.getElem_toArray, List.getElem_cons_zero, List.getElem_cons_succ, List.setIfInBounds_toArray, List.set_cons_zero, List.set_cons_succ])
      refine wpAnyH_ready (rs := [14]) (by kernel_rfl) (by simp) ?_
      refine AllReadyH.cons rfl (fun K hK => ?_) AllReadyH.nil
      go_simp
      refine Shut.out hK _ _ (bstep (bstep hB hb1) (cell_below _ _)) (fun _ => ?_)
      clear hK K
      try (simp only [Act.put, List.getElem_toArray, List.getElem_cons_zero, List.getElem_cons_succ, List.setIfInBounds_toArray, List.set_cons_zero, List.set_cons_succ])
      refine wpAnyH_ready (rs := [15]) (by kernel_rfl) (by simp) ?_
      refine AllReadyH.cons rfl (fun K hK => ?_) AllReadyH.nil
      refine step_append_lies _ rfl _ _ 26 rfl w.heap.size 127 i0 _ 2 32 Try.underlying26 hi hz0 hz1 hz2 rfl (by decide) _ (s.take k).length _ rfl (own_below (own_below h2 hb1) (cell_below _ _)) ⟨w1.heap.size, 0, none⟩ 1 1 [.int .i64 y.v, .slice (some ⟨g1, 0, none⟩) y.t.length cap1] rfl rfl (two_at w1 _ _ _ _ rfl) (by simp [Value.oneCell']) (by omega) (by unfold maxLen; omega) (by omega) (by simp; have := hb1.size; omega) (w1.heap.size + 1) (by simp) ?_; intro g2 cap2 w2 hown2 hgr2 hat2 hgl2; have hB2 : Below w.heap.size w w2 := (bstep (bstep hB hb1) (cell_below w1 (.cells #[.int .i64 y.v, .slice (some ⟨g1, 0, none⟩) y.t.length cap1] 127))).grown hgr2 (by simp; have := hb1.size; omega) (fun k e => (h2.lt k e).1)
      refine Shut.out hK _ _ (hB2) (fun _ => ?_)
      clear hK K
      try (simp only [Act.put, List.getElem_toArray, List.getElem_cons_zero, List.getElem_cons_succ, List.setIfInBounds_toArray, List.set_cons_zero, List.set_cons_succ])
      refine wpAnyH_ready (rs := [16]) (by kernel_rfl) (by simp) ?_
      refine AllReadyH.cons rfl (fun K hK => ?_) AllReadyH.nil
      go_simp
      refine Shut.out hK _ _ (hB2) (fun _ => ?_)
      clear hK K
      try (simp only [Act.put, List.getElem_toArray, List.getElem_cons_zero, List.getElem_cons_succ, List.setIfInBounds_toArray, List.set_cons_zero, List.set_cons_succ])
      refine wpAnyH_done (by kernel_rfl) ?_ _
      have hO1 : OwnC w1 wr.heap.size (.slice (some ⟨g1, 0, none⟩) y.t.length cap1) y.t := by simpa [OwnC] using hown1
      have hO2 : OwnC (w1.alloc (.cells #[.int .i64 y.v, .slice (some ⟨g1, 0, none⟩) y.t.length cap1] 127)) w.heap.size (.slice (some ⟨g1, 0, none⟩) y.t.length cap1) y.t := own_below (own_lo hO1 (fun k e => Nat.le_trans hsz (hO1.lt k e).1)) (cell_below _ _)
      have hF := ownB_push (x := y) (hi := wr.heap.size) (hi' := w2.heap.size) h1 (own_below (own_below h2 hb1) (cell_below _ _)) (fun i q q' => own_below (own_below (h3 i q q') hb1) (cell_below _ _)) h4 h5 hO2 (fun k e => (hO1.lt k e).1) hown2 (fun k q q' => hgr2.block k q q') hgr2.size hgl2
      rw [← unhide HTK] at hF
      have HF := hide hF
      have HB2 := hide hB2
      clear hF hO1 hO2 hown1 hown2 hgr1 hgr2 h2 h3 h4 h5 h6 hB2 hb1
      go_wp2
      go_roundw
      case rel => exact ⟨k + 1, by omega, by go_num, by (have h := unhide HF; rw [List.length_take, Nat.min_eq_left (by omega)] at h; exact h), unhide HB2⟩
      case measure => simp [intOf]; omega
    · have e : k = s.length := by omega
      subst e
      rw [List.take_length] at hO
      go_wp2
      go_ret
      exact ⟨_, rfl, hO, hB⟩

set_option maxRecDepth 100000 in
theorem l2Copy_none (ao : Option Addr) (cap : Nat) (w : World) :
    Calls Try.prog 74 #[.slice ao 0 cap] w fun e w' => ∃ v, e = .returned v ∧ OwnB w' w.heap.size w'.heap.size v [] ∧ Below w.heap.size w w' := by
  go_enter Try.func74, Try.ntmps74
  go_wp2
  refine wp_loop_rounds 1 ?_
  rw [rounds_succ]
  go_wp2
  go_ret
  exact ⟨_, rfl, ⟨[], rfl, by simpa [flatB] using World.ownsRow_made (base := w.heap.size) (e := 127) (size := 2) w #[] 0 (Nat.le_refl _) (by simp [maxLen]) rfl, fun i h => by simp at h, by simp, by simp, fun k e => by simp [Value.ownBlock] at e; simp; omega⟩, cell_below _ _⟩

/-- The specification's l2Copy. -/
theorem l2Copy_any (ao : Option Addr) (cap : Nat) (s : List B) (w : World) (hm : s.length ≤ 1048576) (hm2 : ∀ x ∈ s, 1 ≤ x.t.length ∧ x.t.length ≤ 1048576) (hA : RowB w ao s) :
    Calls Try.prog 74 #[.slice ao s.length cap] w fun e w' => ∃ v, e = .returned v ∧ OwnB w' w.heap.size w'.heap.size v s ∧ Below w.heap.size w w' := by
  rcases hA with rfl | ⟨b, off, rfl, hA⟩
  · exact l2Copy_none ao cap w
  · exact l2Copy_some b off cap s w hm hm2 hA
end Go.Proofs.Ytgfjembemjngiaa
