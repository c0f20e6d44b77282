/- A clause told in new memory. -/
import Derived.Test.YtkedckmpjedjoaaQTG1TG2TG3
namespace Go.Proofs.Ytkedckmpjedjoaa
open Go.RowKit Go.Shelf
set_option linter.unusedVariables false
set_option linter.unusedSimpArgs false
attribute [-go_sem] Go.Builtin.append_

theorem TreL.list {l r : Nat} {W : World} {p : Nat} {t : List C} (h : TreL l r W p t) (hh : r ≤ W.heap.size) (ht : trm t = true) : ListAt W p t := listAt_of (h.kept (Nat.le_refl _) hh (fun _ _ _ => rfl)) ht

theorem tellGoal_any {l r : Nat} {x : Gl} {W : World} {v : Value} (hh : r ≤ W.heap.size) (h : GoF l r x W v) (hw : wholeG x = true) : Calls Try.prog 149 #[v] W (TellG W x) := by
  obtain ⟨k, a, b, c⟩ := x
  unfold wholeG at hw
  rcases h with ⟨e, h⟩ | ⟨e, h⟩ | ⟨e, h⟩ | ⟨e, h⟩ | ⟨e, h⟩ | ⟨e, h⟩ | ⟨e, h⟩
  · simp only at e h
    subst e
    rcases h with ⟨hx, p, rfl, hT⟩ | ⟨hx, _⟩
    · unfold whole_call at hx
      simp only [Bool.and_eq_true, beq_iff_eq] at hx
      obtain ⟨⟨⟨h1, h2⟩, h3⟩, h4⟩ := hx
      rw [List.length_eq_zero_iff.1 h3, List.length_eq_zero_iff.1 h4]
      exact tellGoal_call p a W (hT.list hh h1)
    · simp [hx] at hw
  · simp only at e h
    subst e
    rcases h with ⟨hx, p, q, rfl, hT, hU⟩ | ⟨hx, _⟩
    · unfold whole_same at hx
      simp only [Bool.and_eq_true, beq_iff_eq] at hx
      obtain ⟨⟨h1, h2⟩, h3⟩ := hx
      rw [List.length_eq_zero_iff.1 h3]
      exact tellGoal_same p q a b W (hT.list hh h1) (hU.list hh h2)
    · simp [hx] at hw
  · simp only at e h
    subst e
    rcases h with ⟨hx, rfl⟩ | ⟨hx, _⟩
    · unfold whole_cut at hx
      simp only [Bool.and_eq_true, beq_iff_eq] at hx
      obtain ⟨⟨h1, h2⟩, h3⟩ := hx
      rw [List.length_eq_zero_iff.1 h1, List.length_eq_zero_iff.1 h2, List.length_eq_zero_iff.1 h3]
      exact tellGoal_cut W
    · simp [hx] at hw
  · simp only at e h
    subst e
    rcases h with ⟨hx, p, q, rfl, hT, hU⟩ | ⟨hx, _⟩
    · unfold whole_less at hx
      simp only [Bool.and_eq_true, beq_iff_eq] at hx
      obtain ⟨⟨h1, h2⟩, h3⟩ := hx
      rw [List.length_eq_zero_iff.1 h3]
      exact tellGoal_less p q a b W (hT.list hh h1) (hU.list hh h2)
    · simp [hx] at hw
  · simp only at e h
    subst e
    rcases h with ⟨hx, p, q, r', rfl, hT, hU, hV⟩ | ⟨hx, _⟩
    · unfold whole_plus at hx
      simp only [Bool.and_eq_true] at hx
      obtain ⟨⟨h1, h2⟩, h3⟩ := hx
      exact tellGoal_plus p q r' a b c W (hT.list hh h1) (hU.list hh h2) (hV.list hh h3)
    · simp [hx] at hw
  · simp only at e h
    subst e
    rcases h with ⟨hx, p, rfl, hT⟩ | ⟨hx, _⟩
    · unfold whole_exit at hx
      simp only [Bool.and_eq_true, beq_iff_eq] at hx
      obtain ⟨⟨⟨h1, h2⟩, h3⟩, h4⟩ := hx
      rw [List.length_eq_zero_iff.1 h3, List.length_eq_zero_iff.1 h4]
      exact tellGoal_exit p a W (hT.list hh h1)
    · simp [hx] at hw
  · have e' : k < 1 ∨ 6 < k := e
    clear e
    simp only at hw
    rw [if_neg (by omega), if_neg (by omega), if_neg (by omega), if_neg (by omega), if_neg (by omega), if_neg (by omega)] at hw
    cases hw

theorem goalB_whole {x : Gl} (h : goalB x.k x.a x.b x.c = true) : wholeG x = true := by
  obtain ⟨k, a, b, c⟩ := x
  unfold goalB at h
  unfold wholeG
  simp only at h ⊢
  by_cases h1 : k = 1
  · rw [if_pos h1] at h ⊢
    unfold whole_call
    simp only [Bool.and_eq_true, decide_eq_true_eq, l3T_fit, callT_kind, beq_iff_eq] at h ⊢
    refine ⟨⟨⟨h.1.1.1, ?_⟩, by omega⟩, by omega⟩
    simpa using h.1.2
  · rw [if_neg h1] at h ⊢
    by_cases h3 : k = 3
    · rw [if_pos h3] at h
      rw [if_neg (by omega), if_pos h3]
      unfold whole_cut
      simp only [Bool.and_eq_true, decide_eq_true_eq, beq_iff_eq] at h ⊢
      omega
    · rw [if_neg h3] at h
      by_cases h2 : k = 2 ∨ k = 4
      · rw [if_pos h2] at h
        rcases h2 with h2 | h2
        · rw [if_pos h2]
          unfold whole_same
          simp only [Bool.and_eq_true, decide_eq_true_eq, l3T_fit, beq_iff_eq] at h ⊢
          exact ⟨⟨h.1.1.1, h.1.2.1⟩, h.2⟩
        · rw [if_neg (by omega), if_neg h3, if_pos h2]
          unfold whole_less
          simp only [Bool.and_eq_true, decide_eq_true_eq, l3T_fit, beq_iff_eq] at h ⊢
          exact ⟨⟨h.1.1.1, h.1.2.1⟩, h.2⟩
      · rw [if_neg h2] at h
        by_cases h5 : k = 5
        · rw [if_pos h5] at h
          rw [if_neg (by omega), if_neg h3, if_neg (by omega), if_pos h5]
          unfold whole_plus
          simp only [Bool.and_eq_true, l3T_fit] at h ⊢
          exact ⟨⟨h.1.1.1, h.1.2.1⟩, h.2.1⟩
        · rw [if_neg h5] at h
          cases h
theorem clB_parts {x : Cl} (h : clB x = true) : trm x.h = true ∧ x.g.length ≤ 4 ∧ ∀ g ∈ x.g, wholeG g = true := by
  unfold clB at h
  simp only [Bool.and_eq_true, decide_eq_true_eq, l3T_fit, List.all_eq_true] at h
  exact ⟨h.1.1.1.1, h.1.2, fun g hg => goalB_whole (h.2 g hg)⟩

def TellK (w : World) (x : Cl) (e : Ending) (w' : World) : Prop := ∃ v0 v1, e = .returned (.agg #[v0, v1]) ∧ SegK w.heap.size w'.heap.size w' x v0 v1 ∧ Below w.heap.size w w'
theorem res2 {W : World} {R : Nat} {T : TypeId} {x0 x1 : Value} (h : W.heap[R]? = some (.cells #[x0, x1] T)) :
    W.cell? ⟨R, 0, none⟩ = some x0 ∧ W.cell? ⟨R, 1, none⟩ = some x1 ∧ W.frozen? ⟨R, 0, none⟩ = false ∧ W.frozen? ⟨R, 1, none⟩ = false := by
  simp [World.cell?, World.frozen?, h]
theorem set2_heap {W : World} {R i : Nat} {T : TypeId} {x0 x1 u : Value} (h : W.heap[R]? = some (.cells #[x0, x1] T)) (hi : i = 1) : (W.setCell ⟨R, i, none⟩ u).heap[R]? = some (.cells #[x0, u] T) := by
  subst hi
  obtain ⟨hlt, hk'⟩ := Array.getElem?_eq_some_iff.1 h
  show (W.heap.modify R _)[R]? = _
  rw [Array.getElem?_eq_getElem (by rw [Array.size_modify]; exact hlt), Array.getElem_modify_self, hk']
  rfl
theorem set0_heap {W : World} {R i : Nat} {T : TypeId} {x0 x1 u : Value} (h : W.heap[R]? = some (.cells #[x0, x1] T)) (hi : i = 0) : (W.setCell ⟨R, i, none⟩ u).heap[R]? = some (.cells #[u, x1] T) := by
  subst hi
  obtain ⟨hlt, hk'⟩ := Array.getElem?_eq_some_iff.1 h
  show (W.heap.modify R _)[R]? = _
  rw [Array.getElem?_eq_getElem (by rw [Array.size_modify]; exact hlt), Array.getElem_modify_self, hk']
  rfl

theorem SegC.one {lo hi : Nat} {w : World} {v : Value} {t : List C} (h : SegC lo hi w v t) : v.oneCell' = true := by
  obtain ⟨ao, cap, rfl, _⟩ := h.1.shape
  rfl
theorem SegG.one {lo hi : Nat} {w : World} {x : Gl} {v0 v1 v2 v3 : Value} (h : SegG lo hi w x v0 v1 v2 v3) : v0.oneCell' = true ∧ v1.oneCell' = true ∧ v2.oneCell' = true ∧ v3.oneCell' = true := by
  obtain ⟨rfl, m1, m2, a1, a2, a3, h1, h2, h3⟩ := h
  exact ⟨rfl, h1.one, h2.one, h3.one⟩
theorem SegG.shapes {lo hi : Nat} {w : World} {x : Gl} {v0 v1 v2 v3 : Value} (h : SegG lo hi w x v0 v1 v2 v3) : v0 = .int .i64 x.k ∧ (∃ a c, v1 = .slice a x.a.length c) ∧ (∃ a c, v2 = .slice a x.b.length c) ∧ ∃ a c, v3 = .slice a x.c.length c := by
  obtain ⟨e, m1, m2, a1, a2, a3, h1, h2, h3⟩ := h
  obtain ⟨p1, c1, e1, _⟩ := h1.1.shape
  obtain ⟨p2, c2, e2, _⟩ := h2.1.shape
  obtain ⟨p3, c3, e3, _⟩ := h3.1.shape
  exact ⟨e, ⟨p1, c1, e1⟩, ⟨p2, c2, e2⟩, ⟨p3, c3, e3⟩⟩

/-- A clause that is being told: so many of its goals are. -/
structure TelK (w : World) (x : Cl) (Tb : Nat) (v0 bv : Value) (k : Nat) (wr : World) : Prop where
  res : wr.heap[w.heap.size]? = some (.cells #[.slice none 0 0, .slice none 0 0] 142)
  tob : wr.heap[Tb]? = some (.cells #[v0, bv] 142)
  hd : SegC (w.heap.size + 1) Tb wr v0 x.h
  gs : SegL (Tb + 1) wr.heap.size wr 93 4 bv k (EGl x.g)
  lo : w.heap.size < Tb
  bl : Below w.heap.size w wr
theorem TelK.lt {w : World} {x : Cl} {Tb : Nat} {v0 bv : Value} {k : Nat} {wr : World} (h : TelK w x Tb v0 bv k wr) : Tb < wr.heap.size := (Array.getElem?_eq_some_iff.1 h.tob).1

theorem telK_step {w wr w2 : World} {x : Cl} {Tb : Nat} {v0 bv : Value} {k : Nat} {u0 u1 u2 u3 : Value} (h : TelK w x Tb v0 bv k wr) (hk : k < x.g.length) (hk4 : x.g.length ≤ 4) (hb : Below wr.heap.size wr w2) (hS : SegG wr.heap.size w2.heap.size w2 x.g[k] u0 u1 u2 u3) (ho : u0.oneCell' = true ∧ u1.oneCell' = true ∧ u2.oneCell' = true ∧ u3.oneCell' = true) :
    ∃ g cap w3, (Builtin.append_ #[140, 140] 140 #[bv, .slice (some ⟨w2.heap.size, 0, none⟩) 1 1]).run Try.prog (w2.alloc (.cells #[u0, u1, u2, u3] 93)) = .ok (.slice (some ⟨g, 0, none⟩) (k + 1) cap) w3 ∧
      w3.heap[Tb]? = some (.cells #[v0, bv] 142) ∧ TelK w x Tb v0 (.slice (some ⟨g, 0, none⟩) (k + 1) cap) (k + 1) (w3.setCell ⟨Tb, 1, none⟩ (.slice (some ⟨g, 0, none⟩) (k + 1) cap)) := by
  have hlt := h.lt
  have hlo := h.lo
  have hs2 := hb.size
  obtain ⟨g, cap, w3, hr, hseg, hgrow, hv⟩ := SegL.push (egl_keeps x.g) h.gs (by omega) hb (Nat.le_refl _) hs2 (Nat.le_refl _) (us := [u0, u1, u2, u3]) ⟨hk, u0, u1, u2, u3, rfl, hS⟩ rfl (by intro u hu; simp at hu; rcases hu with rfl | rfl | rfl | rfl <;> simp [ho])
    Try.underlying140 (info_parts Try.infoG).choose_spec.1 (info_parts Try.infoG).choose_spec.2.1 (info_parts Try.infoG).choose_spec.2.2.1 (info_parts Try.infoG).choose_spec.2.2.2 rfl (by decide) (by decide) (by omega)
  have hsa : (w2.alloc (.cells #[u0, u1, u2, u3] 93)).heap.size = w2.heap.size + 1 := by simp
  have key : ∀ b, b < wr.heap.size → bv.ownBlock ≠ some b → w3.heap[b]? = wr.heap[b]? := fun b hb1 hb2 => by
    rw [hgrow.block b (by simp; omega) (fun e => hb2 e.symm), Below.heap_alloc _ _ _ (by omega)]
    exact hb.block b hb1
  have htb := (key Tb hlt (fun e => by have := hv Tb e; omega)).trans h.tob
  have hsz : (w3.setCell ⟨Tb, 1, none⟩ (.slice (some ⟨g, 0, none⟩) (k + 1) cap)).heap.size = w3.heap.size := by simp [World.setCell]
  have low : ∀ b, b < Tb → (w3.setCell ⟨Tb, 1, none⟩ (.slice (some ⟨g, 0, none⟩) (k + 1) cap)).heap[b]? = wr.heap[b]? := fun b hb1 => by
    rw [Below.heap_setCell _ _ _ _ (by show b ≠ Tb; omega), key b (by omega) (fun e => by have := hv b e; omega)]
  refine ⟨g, cap, w3, hr, htb, ⟨?_, set2_heap htb rfl, h.hd.kept (fun b _ b2 => low b b2), ?_, hlo, ?_⟩⟩
  · rw [low _ hlo]; exact h.res
  · rw [hsz]
    exact hseg.kept (egl_keeps x.g) (Agree.set (.inl (Nat.lt_succ_self Tb)))
  · have hB2 : Below w.heap.size w w2 := bstep h.bl hb
    exact ((hB2.alloc (by omega) _).grown hgrow (by simp; omega) (fun j e => by have := hv j e; omega)).setCell (p := ⟨Tb, 1, none⟩) (by show w.heap.size ≤ Tb; omega) _

theorem tell_clause_fin {w wr : World} {x : Cl} {Tb : Nat} {v0 bv : Value} (h : TelK w x Tb v0 bv x.g.length wr) : TellK w x (.returned (.agg #[v0, bv])) ((wr.setCell ⟨w.heap.size, 0, none⟩ v0).setCell ⟨w.heap.size, 1, none⟩ bv) := by
  have hlt := h.lt
  have hlo := h.lo
  have hsz : ((wr.setCell ⟨w.heap.size, 0, none⟩ v0).setCell ⟨w.heap.size, 1, none⟩ bv).heap.size = wr.heap.size := by simp [World.setCell]
  have hk : ∀ hi, Agree (w.heap.size + 1) hi wr ((wr.setCell ⟨w.heap.size, 0, none⟩ v0).setCell ⟨w.heap.size, 1, none⟩ bv) := fun hi => (Agree.set (a := ⟨w.heap.size, 0, none⟩) (.inl (Nat.lt_succ_self _))).trans (Agree.set (a := ⟨w.heap.size, 1, none⟩) (.inl (Nat.lt_succ_self _)))
  refine ⟨v0, bv, rfl, ⟨Tb + 1, by omega, by rw [hsz]; omega, ?_, ?_⟩, ((h.bl.setCell (p := ⟨w.heap.size, 0, none⟩) (Nat.le_refl _) _).setCell (p := ⟨w.heap.size, 1, none⟩) (Nat.le_refl _) _)⟩
  · exact (h.hd.kept (hk _)).wide (by omega) (by omega)
  · rw [hsz]
    exact h.gs.kept (egl_keeps _) ((hk _).sub (by omega) (Nat.le_refl _))

set_option maxRecDepth 100000 in
set_option maxHeartbeats 8000000 in
theorem tellClause_any (lo hi P : Nat) (x : Cl) (w : World) (hF : ClF lo hi w P x) (hh : hi ≤ w.heap.size) (hc : clB x = true) :
    Calls Try.prog 107 #[.pointer (some ⟨P, 0, none⟩)] w (TellK w x) := by
  obtain ⟨ht, h4, hw⟩ := clB_parts hc
  obtain ⟨o, ao, cap, hP1, hP2, hc0, hc1, hL, hG⟩ := hF
  obtain ⟨p, rfl, hT⟩ : ∃ p, o = some p ∧ TreL lo hi w p x.h := by
    rcases hL with ⟨_, p, e, h⟩ | ⟨h, _⟩
    · exact ⟨p, e, h⟩
    · rw [ht] at h; cases h
  have hPs : P < w.heap.size := by omega
  have HLI := hide (hT.list hh ht)
  have HG := hide (fun (k : Nat) (hk : k < x.g.length) (W : World) (hW : Below w.heap.size w W) => (show ∃ b v, ao = some ⟨b, 0, none⟩ ∧ W.cell? ⟨b, k, none⟩ = some v ∧ ((∃ T u, v = .iface T u) ∧ Calls Try.prog 149 #[v] W (TellG W x.g[k])) from by
    rcases hG with e | ⟨b, e, b1, b2, hb⟩
    · rw [e] at hk; simp at hk
    · obtain ⟨v, l, r, q1, q2, q3, q4⟩ := hb k hk
      have q5 := q4.below (Nat.le_trans q3 hh) hW
      have hwk := hw _ (List.getElem_mem hk)
      exact ⟨b, v, e, (hW.cell (p := ⟨b, k, none⟩) (World.block_lt_of_cell? w _ q1)).trans q1, q5.yes hwk, tellGoal_any (Nat.le_trans q3 (Nat.le_trans hh hW.size)) q5 hwk⟩))
  unfold ptrV at hc0
  simp only [Option.map_some] at hc0
  clear hG hT hL hw ht hc hP1 hP2
  go_enter Try.func107, Try.ntmps107
  go_upto_region 1 with fail
  have hb0 := cell_below w (.cells #[.slice none 0 0, .slice none 0 0] 142)
  have hres := World.alloc_heap_new w (.cells #[.slice none 0 0, .slice none 0 0] 142)
  have hs0 : (w.alloc (.cells #[.slice none 0 0, .slice none 0 0] 142)).heap.size = w.heap.size + 1 := by simp
  have c00 := (hb0.cell (p := ⟨P, 0, none⟩) hPs).trans hc0
  have c01 := (hb0.cell (p := ⟨P, 1, none⟩) hPs).trans hc1
  generalize w.alloc (.cells #[.slice none 0 0, .slice none 0 0] 142) = w0 at hb0 hres hs0 c00 c01 ⊢
  go_wp2_with fail
  refine (unhide HLI w0 hb0).mono ?_
  rintro e w1 ⟨a1, p1, rfl, hS, hb1⟩
  have hres1 := (hb1.block w.heap.size (by omega)).trans hres
  have c11 := (hb1.cell (p := ⟨P, 1, none⟩) (show P < w0.heap.size by omega)).trans c01
  have hs1 := hb1.size
  have hK0 : TelK w x w1.heap.size (.slice a1 x.h.length p1) (.slice none 0 0) 0 (w1.alloc (.cells #[.slice a1 x.h.length p1, .slice none 0 0] 142)) :=
    ⟨by rw [Below.heap_alloc _ _ _ (by omega)]; exact hres1, World.alloc_heap_new w1 _, (hS.kept (Agree.below (cell_below _ _) (Nat.le_refl _))).wide (by omega) (Nat.le_refl _), SegL.empty _ _ _ _ _ _, by omega, bstep (bstep hb0 hb1) (cell_below _ _)⟩
  have c21 := ((cell_below w1 (.cells #[.slice a1 x.h.length p1, .slice none 0 0] 142)).cell (p := ⟨P, 1, none⟩) (show P < w1.heap.size by omega)).trans c11
  obtain ⟨Tb, hTb⟩ : ∃ Tb, Tb = w1.heap.size := ⟨_, rfl⟩
  rw [← hTb] at hK0
  have HK0 := hide hK0
  clear hK0 hS hres1 hres hb1 c00 c01 c11 hc0 hc1 HLI hs1
  go_upto_region 2 with fail
  rw [← hTb]
  generalize w1.alloc (.cells #[.slice a1 x.h.length p1, .slice none 0 0] 142) = wa at HK0 c21 ⊢
  clear hTb
  go_wp2
  go_loopw [17] (fun i wr => ∃ (k : Nat) (bv : Value), k ≤ x.g.length ∧ i = .int .i64 k ∧ TelK w x Tb (.slice a1 x.h.length p1) bv k wr) (fun i _ => x.g.length - (intOf i).toNat)
  case atStart => exact ⟨0, _, Nat.zero_le _, rfl, unhide HK0⟩
  case round =>
    obtain ⟨k, bv, hk, rfl, hK⟩ := hrel
    clear HK0 c21
    have HK := hide hK
    have hBr := hK.bl
    obtain ⟨t0, t1, s0, s1⟩ := res2 hK.tob
    have hTbl := hK.lt
    obtain ⟨ab, cb, rfl, _⟩ := hK.gs.shape
    clear hK
    by_cases hlt : k < x.g.length
    · obtain ⟨b, v, rfl, m0, ⟨T, u, rfl⟩, hC⟩ := unhide HG k hlt wr hBr
      have HC := hide (unhide HG k hlt wr.drew hBr.drew)
      clear hC HG
      obtain ⟨b', v', e1, m0', _, hC'⟩ := unhide HC
      have e2 : b' = b := by injection e1 with e1; injection e1 with e1; exact e1.symm
      subst e2
      have e3 : v' = .iface T u := by
        have : wr.cell? ⟨b', k, none⟩ = some v' := m0'
        rw [m0] at this
        exact (Option.some.inj this).symm
      subst e3
      have HC2 := hide hC'
      have hdr : Below wr.heap.size wr wr.drew := (Below.refl wr.heap.size wr).drew
      clear HC hC' m0' e1
      go_wp2
      go_region_with (go_at_call 149; refine (unhide HC2).mono ?_; rintro e w2 ⟨u0, u1, u2, u3, rfl, hS, hb2⟩; have hb20 : Below wr.heap.size wr w2 := bstep hdr hb2; obtain ⟨g', cap', w3, hr, ht3, hst⟩ := telK_step (unhide HK) hlt h4 hb20 hS hS.one; obtain ⟨e0, ⟨b1, q1, e1⟩, ⟨b2, q2, e2⟩, ⟨b3, q3, e3⟩⟩ := hS.shapes; subst e0 e1 e2 e3; have v1 := (hb20.cell (p := ⟨Tb, 1, none⟩) hTbl).trans t1; have v1a := ((cell_below w2 (.cells #[.int .i64 x.g[k].k, .slice b1 x.g[k].a.length q1, .slice b2 x.g[k].b.length q2, .slice b3 x.g[k].c.length q3] 93)).cell (p := ⟨Tb, 1, none⟩) (Nat.lt_of_lt_of_le hTbl hb20.size)).trans v1; obtain ⟨y0, y1, z0, z1⟩ := res2 ht3; have HST := hide hst; clear hst hS ht3)
      all_goals go_wp2
      all_goals go_roundw
      all_goals first | exact ⟨k + 1, _, by omega, by go_num, unhide HST⟩ | (simp [intOf]; omega)
    · have e : k = x.g.length := by omega
      subst e
      obtain ⟨r0, r1, q0, q1⟩ := res2 (unhide HK).res
      have FIN := hide (tell_clause_fin (unhide HK))
      clear HK
      go_wp2
      exact bodyPost_ret (v := .agg #[.slice a1 x.h.length p1, .slice ab x.g.length cb]) (by simp [results, Try.results107, go_sem, *]) rfl (unhide FIN)
end Go.Proofs.Ytkedckmpjedjoaa
