import Derived.Test.YtcimlcmhodpalaaQFL1
import Derived.Test.YtcimlcmhodpalaaQPB4
import Derived.Test.YtcimlcmhodpalaaQPlain2T4
import Derived.Test.YtcimlcmhodpalaaQFL7
/- Where no variable leads to itself there is a rank; the walk of the specification's SubFull. -/
namespace Go.Proofs.Ytcimlcmhodpalaa
open Go.RowKit
set_option linter.unusedVariables false
set_option linter.unusedSimpArgs false

theorem reach_kid {s : List B} {v u : Int} (h : varIn (getB s v) u) {x : Int} (hr : Reach s (getB s u) x) : Reach s (getB s v) x := by
  induction hr with
  | here h1 => exact .step (.here h) h1
  | step _ h2 ih => exact .step ih h2

theorem noRing_ranked {s : List B} (h : NoRing s) : ∃ ρ, Ranked s ρ := by
  classical
  refine ⟨fun v => ((s.map (·.v)).filter fun x => decide (Reach s (getB s v) x)).length, fun v u hu hb => ?_⟩
  obtain ⟨y, hy, e, _⟩ := getB_mem hb
  refine filter_lt (y := u) (List.mem_map.2 ⟨y, hy, e⟩) (by simpa using Reach.here hu) (by simpa using h u hb) (fun x _ hx => ?_)
  simp only [decide_eq_true_eq] at hx ⊢
  exact reach_kid hu hx

theorem allOk_once {s : List B} (h : AllOk s) : Once s := by
  have key : ∀ k, k ≤ s.length → ((s.take k).map (·.v)).Nodup := by
    intro k
    induction k with
    | zero => intro _; simp
    | succ k ih =>
      intro hk
      have hk' : k < s.length := by omega
      rw [List.take_succ_eq_append_getElem hk', List.map_append, List.nodup_append]
      refine ⟨ih (by omega), by simp, fun a ha b hb => ?_⟩
      simp at hb
      subst hb
      intro e
      subst e
      obtain ⟨x, hx, e⟩ := List.mem_map.1 ha
      obtain ⟨j, hj, rfl⟩ := List.getElem_of_mem hx
      have hj2 := hj
      rw [List.length_take] at hj2
      rw [List.getElem_take] at e
      exact (h k hk').2.2.2 j (by omega) (by omega) e
  have := key s.length (Nat.le_refl _)
  rwa [List.take_length] at this

theorem subOk_all {s : List B} (h : subOk s = true) : AllOk s := by
  unfold subOk at h
  exact @of_decide_eq_true _ (Classical.propDecidable _) h

/-- Bindings that SubOk finds ok are ok. -/
theorem subOk_okB {s : List B} (h : subOk s = true) : OkB s := by
  have ha := subOk_all h
  have ho := allOk_once ha
  refine ⟨ho, fun x hx => ?_, noRing_ranked (fun v hv hr => ?_)⟩
  · obtain ⟨k, hk, rfl⟩ := List.getElem_of_mem hx
    exact trm_Trm (ha k hk).2.1
  · obtain ⟨x, hx, e1, e2⟩ := getB_mem hv
    obtain ⟨k, hk, rfl⟩ := List.getElem_of_mem hx
    rw [← e2, ← e1] at hr
    exact (ha k hk).2.2.1 hr

/-- What SubFull is. -/
noncomputable def fullB (s : List B) (t : List C) : Option (List C) := if subOk s = true ∧ trm t = true then fullOk s t else none
def FOut (r : Option (List C)) (w : World) (e : Ending) (w' : World) : Prop := ∃ v, OwnC w' w.heap.size v (r.getD []) ∧ e = .returned (.tuple #[v, .bool r.isSome]) ∧ Below w.heap.size w w'

theorem fout_of {s : List B} {t t' : List C} {n : Nat} {w w' : World} {v : Value} {bb : Bool} (h1 : subOk s = true) (h2 : trm t = true) (hE : Exp s n t t') (ho : OwnC w' w.heap.size v (if t'.length ≤ 40 then t' else [])) (hbb : bb = decide (t'.length ≤ 40)) (hb : Below w.heap.size w w') : FOut (fullB s t) w (.returned (.tuple #[v, .bool bb])) w' := by
  have e : fullB s t = if t'.length ≤ 40 then some t' else none := by unfold fullB; rw [if_pos ⟨h1, h2⟩, fullOk_of hE]
  subst hbb
  refine ⟨v, ?_, ?_, hb⟩
  · rw [e]
    by_cases hl : t'.length ≤ 40
    · rw [if_pos hl] at ho ⊢; exact ho
    · rw [if_neg hl] at ho ⊢; exact ho
  · rw [e]
    by_cases hl : t'.length ≤ 40
    · simp [hl]
    · simp [hl]
theorem fout_no {s : List B} {t : List C} {w w' : World} {v : Value} (h : ¬ (subOk s = true ∧ trm t = true)) (ho : OwnC w' w.heap.size v []) (hb : Below w.heap.size w w') : FOut (fullB s t) w (.returned (.tuple #[v, .bool false])) w' := by
  have e : fullB s t = none := by unfold fullB; rw [if_neg h]
  exact ⟨v, by rw [e]; exact ho, by rw [e]; rfl, hb⟩

set_option maxRecDepth 100000 in
set_option maxHeartbeats 2000000 in
theorem specSubFull_any (ao : Option Addr) (cap : Nat) (s : List B) (bo : Option Addr) (cp : Nat) (t : List C) (w : World) (hs : s.length ≤ 1048576) (hst : tot s ≤ 1048576) (htl : t.length ≤ maxLen) (hA : RowB w ao s) (hF : FitB s) (hT : Row w bo t) (hFt : Fit t) :
    Calls Try.prog 42 #[.slice ao s.length cap, .slice bo t.length cp] w (FOut (fullB s t) w) := by
  have H1 := hide (specSubOk_any ao cap s w hs hst hA hF)
  cases h1 : subOk s with
  | false =>
    rw [h1] at H1
    have HN : Hid (¬ (subOk s = true ∧ trm t = true)) := fun h => by rw [h1] at h; cases h.1
    clear h1
    go_enter Try.func42, Try.ntmps42
    go_wp2_with (go_at_call 39; refine (unhide H1).mono ?_; rintro e w1 ⟨rfl, hb1⟩)
    go_ret2
    exact fout_no (unhide HN) (World.ownsRow_made _ #[] 0 hb1.size (by simp [maxLen]) rfl) (bstep hb1 (cell_below _ _))
  | true =>
    rw [h1] at H1
    have H2 := hide (fun (w1 : World) (hb1 : Below w.heap.size w w1) => specTrmOk_any bo cp t w1 htl (hT.below hb1) hFt)
    cases h2 : trm t with
    | false =>
      rw [h2] at H2
      have HN : Hid (¬ (subOk s = true ∧ trm t = true)) := fun h => by rw [h2] at h; cases h.2
      clear h1 h2
      go_enter Try.func42, Try.ntmps42
      go_wp2_with (first | (go_at_call 39; refine (unhide H1).mono ?_; rintro e w1 ⟨rfl, hb1⟩) | (go_at_call 29; refine (unhide H2 _ hb1).mono ?_; rintro e w2 ⟨rfl, hb2⟩))
      go_ret2
      exact fout_no (unhide HN) (World.ownsRow_made _ #[] 0 (Nat.le_trans hb1.size hb2.size) (by simp [maxLen]) rfl) (bstep (bstep hb1 hb2) (cell_below _ _))
    | true =>
      rw [h2] at H2
      obtain ⟨ρ, hρ⟩ := (subOk_okB h1).rank
      obtain ⟨n, t', hE⟩ := exp_all hρ t
      have hl := trm_len h2
      obtain ⟨b, off, rfl, hAt⟩ : ∃ b off, bo = some ⟨b, off, none⟩ ∧ At w b off t := by
        rcases hT with h | h
        · rw [h] at hl; simp at hl
        · exact h
      have H3 := hide (fun (w1 : World) (hb1 : Below w.heap.size w w1) => l2Full_some ao cap s b off cp t t' n w1 hs hst hl.2 hl.1 hE (hA.below hb1) (hAt.below hb1))
      have HF := hide (fun (w' : World) (v : Value) (bb : Bool) => fout_of (w := w) (w' := w') (v := v) (bb := bb) h1 h2 hE)
      clear h1 h2 hE hAt hT hρ
      go_enter Try.func42, Try.ntmps42
      go_wp2_with (first | (go_at_call 39; refine (unhide H1).mono ?_; rintro e w1 ⟨rfl, hb1⟩) | (go_at_call 29; refine (unhide H2 _ hb1).mono ?_; rintro e w2 ⟨rfl, hb2⟩; have hb12 := bstep hb1 hb2) | (go_at_call 84; refine (unhide H3 _ hb12).mono ?_; rintro e w3 ⟨v3, hO3, rfl, hb3⟩))
      go_ret2
      exact unhide HF _ _ _ (OwnC.base hO3 hb12.size) rfl (bstep hb12 hb3)
end Go.Proofs.Ytcimlcmhodpalaa

/- The walk of the program's SubFull. -/
namespace Go.Proofs.Ytcimlcmhodpalaa
open Go.RowKit Go.Maps
set_option linter.unusedVariables false
set_option linter.unusedSimpArgs false

theorem okB_okT {s : List B} (h : OkB s) : OkT s := fun v c hc => by
  by_cases h0 : getB s v = []
  · rw [h0] at hc; simp at hc
  · obtain ⟨x, hx, _, e⟩ := getB_mem h0
    rw [← e] at hc
    exact (h.term x hx).2 c hc

theorem gotT_at {n₀ : Nat} {w w' : World} {t : List C} {p : Nat} {z : List (Nat × C)} (hl : t.length ≤ 40) (e : z.map (·.2) = t) (h : Tre (fun b => w.heap.size ≤ b ∧ b < w'.heap.size) w' t.length p z) : TreeAt (fun b => w.heap.size ≤ b ∧ b < w'.heap.size) w' p t := ⟨z, tre_fuel h hl, e⟩

theorem row_cells' {w : World} {base : Nat} {v : Value} {t : List C} (h : OwnC w base v t) (hn : 0 < t.length) : ∃ g cap, v = .slice (some ⟨g, 0, none⟩) t.length cap ∧ t.length ≤ cap := by
  rcases h.2 with ⟨e, e'⟩ | ⟨g, cap, cur, e, _, _, hc, _⟩
  · omega
  · exact ⟨g, cap, e, hc⟩

set_option maxRecDepth 100000 in
set_option maxHeartbeats 2000000 in
/-- The program's SubFull. -/
theorem implSubFull_any (ao : Option Addr) (cap : Nat) (s : List B) (bo : Option Addr) (cp : Nat) (t : List C) (w : World) (hs : s.length ≤ 1048576) (hst : tot s ≤ 1048576) (hcp : t.length ≤ cp) (hcm : cp ≤ maxLen) (hA : RowB w ao s) (hF : FitB s) (hT : Row w bo t) (hFt : Fit t) :
    Calls Try.prog 40 #[.slice ao s.length cap, .slice bo t.length cp] w (FOut (fullB s t) w) := by
  go_enter Try.func40, Try.ntmps40
  go_wp2_with fail
  refine (bindingsOf_any ao cap s _ hs hst hA hF).mono ?_
  rintro e W1 (⟨h1, P, S, rfl, hN, hb⟩ | ⟨h1, rfl, hb⟩)
  · cases h2 : trm t with
    | false =>
      have HN : Hid (¬ (subOk s = true ∧ trm t = true)) := fun h => by rw [h2] at h; cases h.2
      have H2 := hide (treeOf_no bo cp t W1 (Nat.le_trans hcp hcm) (hT.below hb) hFt h2)
      clear h1 h2 hN
      go_wp2_with fail
      refine (unhide H2).mono ?_
      clear H2
      rintro e W2 ⟨rfl, hb2⟩
      go_wp2
      go_ret2
      exact fout_no (unhide HN) (World.ownsRow_nil _ _ _ _) (bstep hb hb2)
    | true =>
      have hl := trm_len h2
      have H2 := hide (treeOf_yes 0 bo cp t W1 hcp hcm (Nat.zero_le _) (hT.below hb) hFt h2)
      have hO := subOk_okB h1
      obtain ⟨ρ, hρ⟩ := hO.rank
      obtain ⟨n, t', hE⟩ := exp_all hρ t
      have HFO := hide (fun (w' : World) (v : Value) (bb : Bool) => fout_of (w := w) (w' := w') (v := v) (bb := bb) h1 h2 hE)
      have htl := hE.len
      have HOK := hide (show ∀ c ∈ t, okC c = true from (trm_Trm h2).2)
      have HX := hide (⟨hO, hE⟩ : OkB s ∧ Exp s n t t')
      have hlo := hb.size
      clear h1 h2 hE hρ hO
      go_wp2_with fail
      refine (unhide H2).mono ?_
      clear H2
      rintro e W2 ⟨p, z, rfl, hz, hnd, hTr, hb2⟩
      have hN2 := hN.fresh hb2 hlo
      have hT2 := (gotT_at (n₀ := 0) hl.2 hz hTr).kept (S' := fun b => S b ∨ (W1.heap.size ≤ b ∧ b < W2.heap.size)) (fun b h => .inr h) (fun b h => rfl)
      have H3 := hide (full_any w.heap.size P p _ s t t' n W2 (by omega) hN2 (unhide HX).1 hT2 (unhide HOK) (okB_okT (unhide HX).1) (unhide HX).2)
      have hB2 := bstep hb hb2
      clear hN hN2 hT2 hTr hnd hz HX HOK
      go_wp2_with fail
      refine (unhide H3).mono ?_
      clear H3
      rintro e W3 ⟨v, rfl, hv, hvn, hb3⟩
      have hB3 := bstep hB2 hb3
      by_cases h40 : t'.length ≤ 40
      · have HV := hide hv
        rw [if_pos h40] at hv
        obtain ⟨g, cg, rfl, _⟩ := row_cells' hv (by omega)
        have hne := @run_neq_slice_nil_any Try.prog
        go_wp2
        go_ret2
        exact unhide HFO _ _ _ (OwnC.base (unhide HV) hB2.size) (by simp [h40]) hB3
      · have HV := hide hv
        have e := hvn h40
        subst e
        go_wp2
        go_ret2
        exact unhide HFO _ _ _ (OwnC.base (unhide HV) hB2.size) (by simp [h40]) hB3
  · have HN : Hid (¬ (subOk s = true ∧ trm t = true)) := fun h => by rw [h1] at h; cases h.1
    clear h1
    cases h2 : trm t with
    | false =>
      have H2 := hide (treeOf_no bo cp t W1 (Nat.le_trans hcp hcm) (hT.below hb) hFt h2)
      clear h2
      go_wp2_with fail
      refine (unhide H2).mono ?_
      clear H2
      rintro e W2 ⟨rfl, hb2⟩
      go_wp2
      go_ret2
      exact fout_no (unhide HN) (World.ownsRow_nil _ _ _ _) (bstep hb hb2)
    | true =>
      have H2 := hide (treeOf_yes 0 bo cp t W1 hcp hcm (Nat.zero_le _) (hT.below hb) hFt h2)
      clear h2
      go_wp2_with fail
      refine (unhide H2).mono ?_
      clear H2
      rintro e W2 ⟨p, z, rfl, hz, hnd, hTr, hb2⟩
      clear hz hnd hTr
      go_wp2
      go_ret2
      exact fout_no (unhide HN) (World.ownsRow_nil _ _ _ _) (bstep hb hb2)
end Go.Proofs.Ytcimlcmhodpalaa
