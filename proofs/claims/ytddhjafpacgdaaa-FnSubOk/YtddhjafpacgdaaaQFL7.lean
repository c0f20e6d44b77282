/- The walk of full. -/
import Derived.Test.YtddhjafpacgdaaaQFL2FL6LD1FL3FL5

import Derived.Sort.LoopGhostIn
namespace Go.Proofs.Ytddhjafpacgdaaa
open Go.RowKit Go.Maps
set_option linter.unusedVariables false
set_option linter.unusedSimpArgs false
attribute [local go_sem] Oper.semAt_some
attribute [-go_sem] Go.Builtin.append_

/-- What full tells. -/
def FlOut (t' : List C) (w : World) (e : Ending) (w' : World) : Prop := ∃ v, e = .returned v ∧ OwnC w' w.heap.size v (if t'.length ≤ 40 then t' else []) ∧ (¬ t'.length ≤ 40 → v = .slice none 0 0) ∧ Below w.heap.size w w'
theorem flOut_yes {t' : List C} {w w' : World} {v : Value} (h : t'.length ≤ 40) (ho : OwnC w' w.heap.size v t') (hb : Below w.heap.size w w') : FlOut t' w (.returned v) w' := ⟨v, rfl, by rw [if_pos h]; exact ho, fun hn => absurd h hn, hb⟩
theorem flOut_no {t' : List C} {w w' : World} (h : ¬ t'.length ≤ 40) (hb : Below w.heap.size w w') : FlOut t' w (.returned (.slice none 0 0)) w' := ⟨_, rfl, by rw [if_neg h]; exact World.ownsRow_nil _ _ _ _, fun _ => rfl, hb⟩
theorem shut_below {w W : World} {D : Nat} (h : Below w.heap.size w W) (hb : w.heap.size ≤ D) (hD : W.heap[D]? = some (.deferred (some []))) : Below w.heap.size w (W.putObj D (.deferred none)) := h.trans (belowK_b (w := w) (Nat.le_refl _) _ D _ _ hb hD rfl rfl)

/-- Pointers to trees. -/
def stkP (st : List (Nat × List C)) : List Value := st.map fun x => .pointer (some ⟨x.1, 0, none⟩)

/-- How far full has come: what is told, and the stack of what is left, the next one first. -/
def FulAt (S : Nat → Prop) (s : List B) (t' : List C) (w : World) (k : Nat) (ov : Value) (ds : List Deferred) (wr : World) : Prop :=
  ∃ (st : List (Nat × List C)) (o rest : List C) (wv : Value) (m : Nat), k = rest.length ∧ Exp s m (st.map (·.2)).flatten rest ∧ o ++ rest = t' ∧ o.length ≤ 40 ∧ st.length ≤ 42 ∧ OwnC wr w.heap.size ov o ∧ Boxed wr (w.heap.size + 1) 96 wv ∧
    wr.ownsRow w.heap.size 77 1 wv st.length (stkP st.reverse) ∧ (∀ x ∈ st, TreeAt S w x.1 x.2 ∧ ∀ c ∈ x.2, okC c = true) ∧ Below w.heap.size w wr ∧ Marked w.heap.size wr.heap.size wr ds

theorem row_shape {w : World} {base e size n : Nat} {v : Value} {xs : List Value} (h : w.ownsRow base e size v n xs) : ∃ ao cap, v = .slice ao n cap ∧ n ≤ cap ∧ cap ≤ maxLen := by
  rcases h.2 with ⟨rfl, rfl⟩ | ⟨g, cap, cur, rfl, _, _, h1, h2, _⟩
  · exact ⟨none, 0, rfl, Nat.le_refl _, by simp [maxLen]⟩
  · exact ⟨_, cap, rfl, h1, h2⟩

theorem row_cells {w : World} {base e n : Nat} {v : Value} {xs : List Value} (h : w.ownsRow base e 1 v n xs) (hn : 0 < n) : ∃ g cap, v = .slice (some ⟨g, 0, none⟩) n cap ∧ n ≤ cap ∧ cap ≤ maxLen ∧ base ≤ g ∧ g < w.heap.size ∧ xs.length = n ∧ ∀ i, (hi : i < xs.length) → w.cell? ⟨g, i, none⟩ = some xs[i] := by
  obtain ⟨hl, ⟨rfl, rfl⟩ | ⟨g, cap, cur, rfl, h1, h2, h3, h4, h5, h6⟩⟩ := h
  · omega
  · refine ⟨g, cap, rfl, h3, h4, h1, (Array.getElem?_eq_some_iff.1 h2).1, by omega, fun i hi => ?_⟩
    have hi2 : i < cur.size := by omega
    have e : xs[i] = cur[i] := by
      have : xs[i]? = cur[i]? := by rw [← h6, List.getElem?_take_of_lt (by omega)]; simp
      rw [List.getElem?_eq_getElem hi, Array.getElem?_eq_getElem hi2] at this
      exact Option.some.inj this
    simp [World.cell?, h2, e, hi2]

theorem row_pop {w : World} {base e n cap : Nat} {ao : Option Addr} {xs : List Value} {x : Value} (h : w.ownsRow base e 1 (.slice ao (n + 1) cap) (n + 1) (xs ++ [x])) : w.ownsRow base e 1 (.slice ao n cap) n xs := by
  have hl : xs.length = n := by have := h.1; simp at this; omega
  refine ⟨by omega, ?_⟩
  rcases h.2 with ⟨e, hn⟩ | ⟨g, cap', cur, e, hg, hh, hc, hm, hs, ht⟩
  · omega
  · simp only [Value.slice.injEq] at e
    obtain ⟨rfl, _, rfl⟩ := e
    refine .inr ⟨g, cap, cur, rfl, hg, hh, by omega, hm, hs, ?_⟩
    have h3 : (cur.toList.take ((n + 1) * 1)).take n = cur.toList.take (n * 1) := by rw [List.take_take]; congr 1; omega
    rw [← h3, ht, List.take_append_of_le_length (by omega), ← hl, List.take_length]

theorem row_apart {w : World} {base base' e e' size size' n n' : Nat} {v v' : Value} {xs xs' : List Value} (h : w.ownsRow base e size v n xs) (h' : w.ownsRow base' e' size' v' n' xs') (he : e ≠ e') : v.ownBlock = none ∨ v.ownBlock ≠ v'.ownBlock := by
  rcases h.2 with ⟨rfl, _⟩ | ⟨g, cap, cur, rfl, _, hg, _⟩
  · exact .inl rfl
  · rcases h'.2 with ⟨rfl, _⟩ | ⟨g', cap', cur', rfl, _, hg', _⟩
    · right; simp [Value.ownBlock]
    · right
      simp only [Value.ownBlock, ne_eq, Option.some.injEq]
      rintro rfl
      rw [hg] at hg'
      simp at hg'
      exact he hg'.2
theorem keeps_grown {w w1 : World} {base e size n : Nat} {v : Value} {xs : List Value} (h : w.ownsRow base e size v n xs) (tmp : Obj) (hgrow : (w.alloc tmp).grownBy w1 v.ownBlock) : KeepsOthers w w1 := by
  refine (KeepsOthers.alloc w tmp).trans (KeepsOthers.of_grownBy hgrow fun j o ej hj => ?_)
  rcases (World.ownsRow.alloc h tmp).2 with ⟨rfl, _⟩ | ⟨g, cap, cur, rfl, _, hgb, _⟩
  · simp [Value.ownBlock] at ej
  · obtain rfl : g = j := by simpa [Value.ownBlock] using ej
    rw [hgb] at hj; cases hj; rfl
theorem below_grown {w w1 : World} {base e size n : Nat} {v : Value} {xs : List Value} (h : w.ownsRow base e size v n xs) (hb : base ≤ w.heap.size) (tmp : Obj) (hgrow : (w.alloc tmp).grownBy w1 v.ownBlock) : Below base w w1 :=
  ((Below.refl base w).alloc hb tmp).grown hgrow (by simp; omega) fun j ej => (World.ownsRow.lt h j ej).1

theorem row_own {β : Type} (base e size n : Nat) (v : Value) (xs : List Value) : Own (fun (_ : β) W => W.ownsRow base e size v n xs) := by
  intro s X Y row hr hg hrow
  refine hr.kept hg ?_
  rcases hr.2 with ⟨rfl, _⟩ | ⟨g, cap, cur, rfl, _, hgb, _⟩
  · exact .inl rfl
  · right
    intro e'
    obtain ⟨o, ho, hc⟩ := hrow g e'.symm
    rw [hgb] at ho; cases ho; cases hc

/-- A place more than there are: each tree on the stack is one at least. -/
theorem stack_len {S : Nat → Prop} {w : World} {st : List (Nat × List C)} (h : ∀ x ∈ st, TreeAt S w x.1 x.2 ∧ ∀ c ∈ x.2, okC c = true) : st.length ≤ ((st.map (·.2)).flatten).length := by
  induction st with
  | nil => simp
  | cons x st ih =>
    have h1 := ih (fun y hy => h y (by simp [hy]))
    have h2 : x.2.length ≠ 0 := fun e => (h x (by simp)).1.ne (List.length_eq_zero_iff.1 e)
    simp only [List.length_cons, List.map_cons, List.flatten_cons, List.length_append]
    omega

set_option maxRecDepth 100000 in
set_option maxHeartbeats 4000000 in
theorem full_any (lo P p : Nat) (S : Nat → Prop) (s : List B) (t t' : List C) (n : Nat) (w : World) (hl : s.length ≤ 4194304) (hB : Bnd lo w P S s) (hs : OkB s) (hT : TreeAt S w p t) (hok : ∀ c ∈ t, okC c = true) (hokT : OkT s) (hE : Exp s n t t') :
    Calls Try.prog 83 #[.pointer (some ⟨P, 0, none⟩), .pointer (some ⟨p, 0, none⟩)] w (FlOut t' w) := by
  refine (callsIn_wide (n := 5)).1 ?_
  refine callsIn_of_wp_marks Try.func83 rfl trivial ?_ rfl
  simp only [Try.ntmps83, List.size_toArray, List.length_cons, List.length_nil, Nat.reduceAdd, Nat.reduceSub, Array.replicate_succ, Array.replicate_zero, List.push_toArray, List.append_toArray, List.nil_append, List.cons_append]
  have hSl := hB.trees
  have HE := hide hE
  have HT := hide hT
  have HOK := hide hok
  clear hE hT hok
  gi_wp2
  refine wpIn_loop_ghost_k (fun k a' wr => ∃ (u4 u5 u7 u9 u12 u13 u14 u15 u16 u17 u18 u19 u20 u21 u22 u23 u24 u25 u26 u27 u28 u29 u30 u31 u32 u33 u34 u35 u36 u37 u38 u39 u40 u41 u42 u43 u44 u45 u46 u47 u48 u49 u50 u51 : Value) (ds : List Deferred), FulAt S s t' w k u5 ds wr ∧ a' = { tmps := #[.pointer (some ⟨P, 0, none⟩), .pointer (some ⟨p, 0, none⟩), undef, undef, u4, u5, .pointer (some ⟨w.heap.size + 1, 0, none⟩), u7, undef, u9, .pointer (some ⟨p, 0, none⟩), .slice (some ⟨w.heap.size, 0, none⟩) 1 1, u12, u13, u14, u15, u16, u17, u18, u19, u20, u21, u22, u23, u24, u25, u26, u27, u28, u29, u30, u31, u32, u33, u34, u35, u36, u37, u38, u39, u40, u41, u42, u43, u44, u45, u46, u47, u48, u49, u50, u51, undef], defers := ds }) t'.length ?_ ?_
  · (repeat apply Exists.intro)
    refine ⟨?_, rfl⟩
    refine ⟨[(p, t)], [], t', _, n, rfl, by simpa using unhide HE, rfl, by simp, by simp, World.ownsRow_nil _ _ _ _, by have := Boxed.new (w.alloc (.cells #[.pointer (some ⟨p, 0, none⟩)] 77)) 96 (.slice (some ⟨w.heap.size, 0, none⟩) 1 1); rwa [World.size_alloc] at this, ?_, ?_, ((Below.refl _ w).alloc (Nat.le_refl _) _).alloc (by simp) _, Marked.nil _ _ _⟩
    · refine ⟨by simp [stkP], .inr ⟨w.heap.size, 1, #[.pointer (some ⟨p, 0, none⟩)], rfl, Nat.le_refl _, ?_, Nat.le_refl _, by simp [maxLen], rfl, by simp [stkP]⟩⟩
      exact (Below.heap_alloc _ _ _ (by simp)).trans (World.alloc_heap_new w _)
    · intro x hx
      simp at hx
      subst hx
      exact ⟨unhide HT, unhide HOK⟩
  · intro k _ wr hinv
    obtain ⟨u4, u5, u7, u9, u12, u13, u14, u15, u16, u17, u18, u19, u20, u21, u22, u23, u24, u25, u26, u27, u28, u29, u30, u31, u32, u33, u34, u35, u36, u37, u38, u39, u40, u41, u42, u43, u44, u45, u46, u47, u48, u49, u50, u51, ds, hrel, ha⟩ := hinv
    subst ha
    intro _ _ _ _
    obtain ⟨st, o, rest, wv, m, hk, hE, ho, hl1, hl2, hO, hbx, hrow, hst, hBw, hM⟩ := hrel
    have hc := hbx.cell
    have hfz := hbx.frozen
    have HM := hide hM
    have HE := hide hE
    have HO := hide hO
    have HST := hide hst
    have HROW := hide hrow
    obtain ⟨wa, wc, rfl, hwc⟩ := row_shape hrow
    obtain ⟨oa, oc, rfl, _⟩ := hO.shape
    clear hE hM hO hst hrow
    cases st with
    | nil =>
      have er : rest = [] := by cases unhide HE; rfl
      subst er
      rw [List.append_nil] at ho
      subst ho
      simp only [List.length_nil] at hc
      gi_wp2
      exact (unhide HM).leaves (fun W => OwnC W w.heap.size (.slice oa o.length oc) o ∧ Below w.heap.size w W) (fun W D hg hb hD => ⟨ownsRow_putObj hg.1 _ hD rfl, shut_below hg.2 hb hD⟩) (fun W hg => ⟨.slice oa o.length oc, results_tmp (t := 4) rfl _ _ _, flOut_yes hl1 hg.1 hg.2⟩) ⟨unhide HO, hBw⟩
    | cons x st =>
      have hs1 := stack_len (unhide HST)
      have hs2 := (unhide HE).len
      have hl3 : st.length ≤ 41 := by simpa using hl2
      rw [List.length_cons] at hwc hs1
      by_cases hbig : (40 : Int) < (o.length : Int) + ((st.length : Int) + 1)
      · have hlt : ¬ t'.length ≤ 40 := by rw [← ho, List.length_append]; omega
        gi_wp2
        exact (unhide HM).leaves (fun W => Below w.heap.size w W) (fun W D hg hb hD => shut_below hg hb hD) (fun W hg => ⟨.slice none 0 0, results_tmp (t := 4) rfl _ _ _, flOut_no hlt hg⟩) hBw
      · obtain ⟨g, gc, eg, _, _, hg1, hg2, hgl, hgc⟩ := row_cells (unhide HROW) (by simp)
        simp only [Value.slice.injEq] at eg
        obtain ⟨rfl, _, rfl⟩ := eg
        have hcx := hgc st.length (by rw [hgl]; simp)
        have ex : (stkP (x :: st).reverse)[st.length]'(by rw [hgl]; simp) = .pointer (some ⟨x.1, 0, none⟩) := by simp [stkP]
        rw [ex] at hcx
        clear ex hgc
        obtain ⟨hTx, hokx⟩ := unhide HST x (by simp)
        have hTr := hTx.trm hokx
        obtain ⟨nn, y, hN, hTy⟩ := now_all hs hTr
        have hE1 := unhide HE
        simp only [List.map_cons, List.flatten_cons] at hE1
        obtain ⟨c, r, m', rest', rfl, rfl, hE2⟩ := full_step hs hTr hN hE1
        have hTx' := hTx.kept (fun _ h => h) (fun b hb => hBw.block b (hSl b hb))
        have HN := hide (now_any lo P x.1 S s x.2 (c :: r) nn wr hl (hB.below hBw) hTx' hN hokx hokT)
        have HE2 := hide hE2
        have HTY := hide hTy
        clear hE1 hE2 hTx hTx' hN hTr hTy hokx
        gi_wp2
        refine ⟨trivial, ?_⟩
        refine (callsIn_wide.2 (unhide HN)).mono ?_
        clear HN
        rintro e w2 ⟨hwe, p', rfl, hT2, hb2⟩
        clear hwe
        have G2 : wr.grownBy w2 none := ⟨hb2.os, hb2.tape, hb2.output, hb2.size, fun j hj _ => hb2.block j hj⟩
        have hB2 := bstep hBw hb2
        have hbx2 := hbx.kept G2 (by simp)
        have hrow2 := own_below (unhide HROW) hb2
        have hO2 := (unhide HO).below hb2
        have hM2 := ((unhide HM).below (fun k hk => hb2.block k hk)).mono hb2.size
        obtain ⟨c1, ks, ka, kc, ecr, hSp, hk3, hka, hnode, hkr, hkt⟩ := hT2.parts
        obtain ⟨rfl, rfl⟩ := List.cons.inj ecr
        have hc2 := hbx2.cell
        have hf2 := hbx2.frozen
        have hpne : p' ≠ w.heap.size + 1 := by have := hSl p' hSp; omega
        obtain ⟨w3, hw3⟩ : ∃ w3, w2.setCell ⟨w.heap.size + 1, 0, none⟩ (.slice (some ⟨g, 0, none⟩) st.length wc) = w3 := ⟨_, rfl⟩
        have hnode3 : Node w3 p' c (.slice ka ks.length kc) := by rw [← hw3]; exact (Below.heap_setCell _ _ _ p' hpne).trans hnode
        have hbx3 : Boxed w3 (w.heap.size + 1) 96 (.slice (some ⟨g, 0, none⟩) st.length wc) := by rw [← hw3]; exact hbx2.set _
        have hO3 : OwnC w3 w.heap.size (.slice oa o.length oc) o := by rw [← hw3]; exact World.ownsRow.kept hO2 (grownBy_setCell' w2 _ _) (.inr (hbx2.not_row (by decide) hO2).symm)
        have hrow3 : w3.ownsRow w.heap.size 77 1 (.slice (some ⟨g, 0, none⟩) st.length wc) st.length (stkP st.reverse) := by
          have h1 : w2.ownsRow w.heap.size 77 1 (.slice (some ⟨g, 0, none⟩) (st.length + 1) wc) (st.length + 1) (stkP st.reverse ++ [.pointer (some ⟨x.1, 0, none⟩)]) := by simpa [stkP] using hrow2
          rw [← hw3]
          exact (row_pop h1).kept (grownBy_setCell' w2 _ _) (.inr (hbx2.not_row (by decide) (row_pop h1)).symm)
        have hM3 : Marked w.heap.size w3.heap.size w3 ds := by rw [← hw3]; exact (hM2.keeps (KeepsOthers.setCell _ _ _)).mono (KeepsOthers.setCell _ _ _).size
        have hB3 : Below w.heap.size w w3 := by rw [← hw3]; exact hB2.setCell (p := ⟨w.heap.size + 1, 0, none⟩) (by simp) _
        obtain ⟨q0, q1, q2⟩ := hnode3.cells
        have q3 := hnode3.cell
        have hc3 := hbx3.cell
        obtain ⟨i0, hi, hz0, hz1, hz2⟩ := info_parts Try.infoCell
        obtain ⟨g', cap', w4, hr, hown', hgrow, hat, hgl'⟩ := run_append_lies (P := Try.prog) (w3.alloc (.cells #[.int .i64 c.k, .int .i64 c.n, .string c.s] 36)) 23 23 w.heap.size 36 i0 _ 3 32 Try.underlying23 hi hz0 hz1 hz2 rfl (by decide) (.slice oa o.length oc) o.length _ (World.ownsRow.alloc hO3 _) ⟨w3.heap.size, 0, none⟩ 1 1 [.int .i64 c.k, .int .i64 c.n, .string c.s] rfl (cell_three_new w3 _ _ _ _) (by simp [Value.oneCell']) (by omega) (by unfold maxLen; omega) (by omega) (by have := hB3.size; simp; omega) _ rfl
        have hb4 := below_grown hO3 hB3.size _ hgrow
        have hk4 := keeps_grown hO3 _ hgrow
        have hB4 := hB3.trans hb4
        have hnode4 : Node w4 p' c (.slice ka ks.length kc) := (hb4.block p' (hSl p' hSp)).trans hnode3
        have hbx4 := (hbx3.alloc _).kept hgrow (hbx3.not_row (by decide) hO3)
        have hrow4 := (World.ownsRow.alloc hrow3 _).kept hgrow (row_apart hrow3 hO3 (by decide))
        have hM4 := (hM3.keeps hk4).mono hk4.size
        have q3 := hnode4.cell
        have hc4 := hbx4.cell
        have hf4 := hbx4.frozen
        clear hc hfz hcx hbx HROW HO HM
        gi_wp2
        refine ⟨trivial, ?_⟩
        refine (backward_in Fence.wide _ trivial rfl ka ks.length kc w4).mono ?_
        rintro e w5 ⟨rfl, rfl⟩
        gi_wp2
        obtain ⟨xs, hxs⟩ : ∃ xs : List ((Nat × List C) × Nat), xs = ks.zipIdx.reverse := ⟨_, rfl⟩
        have hxl : xs.length = ks.length := by rw [hxs]; simp
        have hx1 : xs.map (·.1) = ks.reverse := by rw [hxs, List.map_reverse]; simp
        have hix : ∀ j, (h : j < xs.length) → xs[j].2 + j + 1 = xs.length := by intro j h; subst hxs; simp at h ⊢; omega
        have hxk : ∀ j, (h : j < xs.length) → ∃ h' : xs[j].2 < ks.length, ks[xs[j].2] = xs[j].1 := by
          intro j h
          subst hxs
          simp at h ⊢
          omega
        have bK := Boxed.new w4 96 (.slice ka ks.length kc)
        obtain ⟨j0, hj, hy0, hy1, hy2⟩ := info_parts (show (Try.prog.info? 77).map (fun i => (i.zero, i.size, i.bytes)) = some (some (.pointer none), 1, 8) by kernel_rfl)
        have hO5 : OwnC w4 w.heap.size (.slice (some ⟨g', 0, none⟩) (o.length + 1) cap') (o ++ [c]) := by unfold OwnC; rw [List.length_append, flat_append]; exact hown'
        refine wpIn_rangeFunc_ownG rfl (by omega) (gf := 119) (lb := #[.pointer (some ⟨w4.heap.size, 0, none⟩)]) rfl trivial (enters_of Try.func119 (by kernel_rfl) rfl)
          (backward_stops (fun y : (Nat × List C) × Nat => y.2) (fun y => y.1.1) Fence.wide rfl _ trivial rfl w.heap.size w4.heap.size xs _ (by simp) (by have := hB4.size; simp; omega) ka kc (by rw [hxl]; unfold maxLen; omega) (by rw [hxl]; exact bK.cell) hix ?cells) kbtK_t (kbtK_b (by have := hB4.size; simp; omega) (by simp)) (Below.refl _ _) (fun _ => rfl)
          (fun pre W => (((∃ v, Boxed W (w.heap.size + 1) 96 v ∧ W.ownsRow w.heap.size 77 1 v (st.length + pre.length) (stkP st.reverse ++ stkP (pre.map (·.1))) ∧ True) ∧ Boxed W w4.heap.size 96 (.slice ka ks.length kc)) ∧ W.ownsRow w.heap.size 36 3 (.slice (some ⟨g', 0, none⟩) (o.length + 1) cap') (o ++ [c]).length (flat (o ++ [c]))) ∧ (Below w.heap.size w W ∧ Marked w.heap.size w4.heap.size W ds))
          (fun _ _ _ => False)
          (OwnFrom.and (OwnFrom.and (OwnFrom.and (Own.from (holdsRow_own w.heap.size (w.heap.size + 1) 96 77 1 (fun pre : List ((Nat × List C) × Nat) => st.length + pre.length) (fun pre => stkP st.reverse ++ stkP (pre.map (·.1))) (fun pre v => True)) _) (Own.from (boxed_own w4.heap.size 96 (fun _ => .slice ka ks.length kc)) _)) (Own.from (row_own _ _ _ _ _ _) _)) (OwnFrom.and (ownFrom_below (Nat.le_refl _) (by have := hB4.size; simp; omega)) (Marked.ownFrom (by simp) ds)))
          (fun _ _ _ _ _ hs _ _ => hs)
          ⟨⟨⟨⟨_, hbx4.alloc _, by simpa [stkP] using World.ownsRow.alloc hrow4 _, trivial⟩, bK⟩, World.ownsRow.alloc hO5 _⟩, hB4.alloc (by have := hB4.size; omega) _, hM4.keeps (KeepsOthers.alloc _ _)⟩
          (fun y => { tmps := #[.pointer (some ⟨P, 0, none⟩), .pointer (some ⟨p, 0, none⟩), undef, undef, u4, .slice (some ⟨g', 0, none⟩) (o.length + 1) cap', .pointer (some ⟨w.heap.size + 1, 0, none⟩), .pointer (some ⟨p', 0, none⟩), undef, .pointer (some ⟨y.1.1, 0, none⟩), .pointer (some ⟨p, 0, none⟩), .slice (some ⟨w.heap.size, 0, none⟩) 1 1, .slice (some ⟨g, 0, none⟩) (st.length + 1) wc, .int .i64 ((st.length : Int) + 1), .bool true, .slice oa o.length oc, .int .i64 (o.length : Int), .slice (some ⟨g, 0, none⟩) (st.length + 1) wc, .int .i64 ((st.length : Int) + 1), .int .i64 ((o.length : Int) + ((st.length : Int) + 1)), .bool false, .pointer (some ⟨P, 0, none⟩), .slice (some ⟨g, 0, none⟩) (st.length + 1) wc, .slice (some ⟨g, 0, none⟩) (st.length + 1) wc, .int .i64 ((st.length : Int) + 1), .int .i64 (st.length : Int), .pointer (some ⟨g, st.length, none⟩), .pointer (some ⟨x.1, 0, none⟩), .pointer (some ⟨p', 0, none⟩), .slice (some ⟨g, 0, none⟩) (st.length + 1) wc, .slice (some ⟨g, 0, none⟩) (st.length + 1) wc, .int .i64 ((st.length : Int) + 1), .int .i64 (st.length : Int), .slice (some ⟨g, 0, none⟩) st.length wc, .slice oa o.length oc, .pointer (some ⟨p', 0, none⟩), .pointer (some ⟨p', 0, none⟩), .pointer (some ⟨p', 0, none⟩), .agg #[.int .i64 c.k, .int .i64 c.n, .string c.s], .slice (some ⟨w3.heap.size, 0, none⟩) 1 1, .slice (some ⟨g', 0, none⟩) (o.length + 1) cap', .pointer (some ⟨p', 0, none⟩), .pointer (some ⟨p', 0, none⟩), .pointer (some ⟨p', 3, none⟩), .slice ka ks.length kc, .func (.func 119) #[] #[.pointer (some ⟨w4.heap.size, 0, none⟩)], .int .i64 (y.2 : Nat), .pointer (some ⟨y.1.1, 0, none⟩), u48, u49, u50, u51, undef], defers := [] }) ?assign ?body ?done ?stop
        case cells =>
          rcases hkr with hk0 | ⟨q, e, hq, hkr⟩
          · left
            rw [hk0] at hxl
            exact List.length_eq_zero_iff.1 (by simpa using hxl)
          · right
            refine ⟨q, e, hSl q hq, fun j h => ?_⟩
            obtain ⟨h', e'⟩ := hxk j h
            have h2 := hkr _ h'
            rw [e'] at h2
            exact ((hB4.alloc (by have := hB4.size; omega) _).cell (p := ⟨q, _, none⟩) (hSl q hq)).trans (((hB2.cell (p := ⟨q, _, none⟩) (hSl q hq)).symm).trans h2)
        case assign =>
          intro l y W K hK
          gi_wp2
          exact hK
        case body =>
          rintro l pre y W ⟨⟨⟨⟨v, hv, hrow, _⟩, hbK⟩, hOc⟩, hBW, hMW⟩ hlt
          have hlt' : pre.length < 3 := by omega
          have hc := hv.cell
          have hmx : Try.prog.follows .mixedOrders = true := by kernel_rfl
          obtain ⟨g2, cap2, w5, hr2, hown2, hgrow2, hat2, hgl2⟩ := run_append_lies (P := Try.prog) (W.alloc (.cells #[.pointer (some ⟨y.1.1, 0, none⟩)] 77)) 96 96 w.heap.size 77 j0 _ 1 8 Try.underlying96 hj hy0 hy1 hy2 rfl (by decide) v (st.length + pre.length) _ (World.ownsRow.alloc hrow _) ⟨W.heap.size, 0, none⟩ 1 1 [.pointer (some ⟨y.1.1, 0, none⟩)] rfl (cell_one_new W _ _) (by simp [Value.oneCell']) (by omega) (by unfold maxLen; omega) (by omega) (by have := hBW.size; simp; omega) _ rfl
          have hr' : Sem.run Try.prog (Builtin.append_ #[96, 96] 96 #[v, .slice (some ⟨W.heap.size, 0, none⟩) 1 1]) (W.alloc (.cells #[.pointer (some ⟨y.1.1, 0, none⟩)] 77)) = .ok (.slice (some ⟨g2, 0, none⟩) (st.length + pre.length + 1) cap2) w5 := hr2
          clear hr2 hr
          obtain ⟨hv1, hv2, hrr2, hk2, hbb2⟩ := Boxed.appended (W := W) hv (by decide) hrow hBW.size (by omega) hown2 hgrow2
          have hc1 := hv1.cell
          have hf1 := hv1.frozen
          have hlt0 := hv.lt
          have hcA : (W.alloc (.cells #[.pointer (some ⟨y.1.1, 0, none⟩)] 77)).cell? ⟨w.heap.size + 1, 0, none⟩ = some v := (hv.alloc _).cell
          have hne : w4.heap.size ≠ w.heap.size + 1 := by have := hbx4.lt; omega
          have hbK2 : Boxed (w5.setCell ⟨w.heap.size + 1, 0, none⟩ (.slice (some ⟨g2, 0, none⟩) (st.length + pre.length + 1) cap2)) w4.heap.size 96 (.slice ka ks.length kc) := ((hbK.alloc _).kept hgrow2 (hbK.not_row (by decide) hrow)).other hne _
          have hOc1 := (World.ownsRow.alloc hOc _).kept hgrow2 (row_apart hOc hrow (by decide))
          have hOc2 : (w5.setCell ⟨w.heap.size + 1, 0, none⟩ (.slice (some ⟨g2, 0, none⟩) (st.length + pre.length + 1) cap2)).ownsRow w.heap.size 36 3 (.slice (some ⟨g', 0, none⟩) (o.length + 1) cap') (o ++ [c]).length (flat (o ++ [c])) := hOc1.kept (grownBy_setCell' w5 _ _) (.inr (hv1.not_row (by decide) hOc1).symm)
          have HFIN := hide (show KeepsFrom (w4.alloc (.cells #[.slice ka ks.length kc] 96)).heap.size W (w5.setCell ⟨w.heap.size + 1, 0, none⟩ (.slice (some ⟨g2, 0, none⟩) (st.length + pre.length + 1) cap2)) ∧ KBt w.heap.size w4.heap.size W (w5.setCell ⟨w.heap.size + 1, 0, none⟩ (.slice (some ⟨g2, 0, none⟩) (st.length + pre.length + 1) cap2)) ∧
              (((∃ v, Boxed (w5.setCell ⟨w.heap.size + 1, 0, none⟩ (.slice (some ⟨g2, 0, none⟩) (st.length + pre.length + 1) cap2)) (w.heap.size + 1) 96 v ∧ (w5.setCell ⟨w.heap.size + 1, 0, none⟩ (.slice (some ⟨g2, 0, none⟩) (st.length + pre.length + 1) cap2)).ownsRow w.heap.size 77 1 v (st.length + (pre ++ [y]).length) (stkP st.reverse ++ stkP ((pre ++ [y]).map (·.1))) ∧ True) ∧ Boxed (w5.setCell ⟨w.heap.size + 1, 0, none⟩ (.slice (some ⟨g2, 0, none⟩) (st.length + pre.length + 1) cap2)) w4.heap.size 96 (.slice ka ks.length kc)) ∧ (w5.setCell ⟨w.heap.size + 1, 0, none⟩ (.slice (some ⟨g2, 0, none⟩) (st.length + pre.length + 1) cap2)).ownsRow w.heap.size 36 3 (.slice (some ⟨g', 0, none⟩) (o.length + 1) cap') (o ++ [c]).length (flat (o ++ [c]))) ∧ (Below w.heap.size w (w5.setCell ⟨w.heap.size + 1, 0, none⟩ (.slice (some ⟨g2, 0, none⟩) (st.length + pre.length + 1) cap2)) ∧ Marked w.heap.size w4.heap.size (w5.setCell ⟨w.heap.size + 1, 0, none⟩ (.slice (some ⟨g2, 0, none⟩) (st.length + pre.length + 1) cap2)) ds) from
            ⟨hk2.from _, ⟨KpS.of_below hbb2, fun u hu => by rw [hbK.cell] at hu; cases hu; exact hbK2.cell⟩,
              ⟨⟨⟨_, hv2, by simpa [stkP, Nat.add_assoc] using hrr2, trivial⟩, hbK2⟩, hOc2⟩, hBW.trans hbb2, hMW.keeps hk2⟩)
          clear hbK2 hOc1 hOc2 hMW hOc hrr2 hk2 hbb2 hown2 hown'
          gi_wp2
          all_goals exact unhide HFIN
        case done =>
          rintro D ys W hD hys ⟨⟨⟨⟨v, hv, hrow, _⟩, _⟩, hOc⟩, hBW, hMW⟩ hK
          rw [hys, hx1, hxl] at hrow
          have hDl : D < W.heap.size := (Array.getElem?_eq_some_iff.1 hK).1
          simp only [World.size_alloc] at hD
          have HREL : Hid (FulAt S s t' w rest'.length (.slice (some ⟨g', 0, none⟩) (o.length + 1) cap') ({ target := .collected D, args := #[] } :: ds) W) := by
            refine ⟨ks ++ st, o ++ [c], rest', v, m', rfl, by simpa using unhide HE2, by rw [← ho]; simp, by simp; omega, by simp; omega, hOc, hv, ?_, ?_, hBW, hMW.push (by have := hB4.size; omega) (by omega) hDl hK⟩
            · rw [List.length_append, Nat.add_comm]
              simpa [stkP] using hrow
            · intro z hz
              rcases List.mem_append.1 hz with hz | hz
              · refine ⟨(hkt z hz).kept (fun _ h => h) (fun b hb => (hB2.block b (hSl b hb)).symm), fun c' hc' => ?_⟩
                exact (unhide HTY).2 c' (List.mem_cons_of_mem _ (List.mem_flatten.2 ⟨z.2, List.mem_map.2 ⟨z, hz, rfl⟩, hc'⟩))
              · exact unhide HST z (by simp [hz])
          gi_wp2
          gi_roundg (rest'.length)
          case rel => exact unhide HREL
          case measure => rw [hk]; simp
        case stop =>
          rintro D c pre W _ _ h _
          exact h.elim
end Go.Proofs.Ytddhjafpacgdaaa
