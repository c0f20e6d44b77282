/- The walk of the specification's SubOk. -/
import Derived.Test.YtddhjafpacgdaaaQD4SG1SL1
import Derived.Test.YtddhjafpacgdaaaQW4W6SB2
import Derived.Deep.RegionHeld3
import Derived.Deep.QuietTactic
import Derived.BigQuiet
namespace Go.Proofs.Ytddhjafpacgdaaa
open Go.RowKit
set_option linter.unusedVariables false
set_option linter.unusedSimpArgs false

/-- The binding at a place is ok. -/
def OkAt (s : List B) (k : Nat) (x : B) : Prop := (0 ≤ x.v ∧ x.v ≤ 99999) ∧ trm x.t = true ∧ ¬ Reach s x.t x.v ∧ ∀ j, (h : j < s.length) → j < k → s[j].v ≠ x.v
def AllOk (s : List B) : Prop := ∀ k, (h : k < s.length) → OkAt s k s[k]
noncomputable def subOk (s : List B) : Bool := @decide (AllOk s) (Classical.propDecidable _)
theorem subOk_yes {s : List B} (h : AllOk s) : subOk s = true := by unfold subOk; simpa using h
theorem subOk_no {s : List B} {k : Nat} (hk : k < s.length) (h : ¬ OkAt s k s[k]) : subOk s = false := by
  unfold subOk
  rw [decide_eq_false_iff_not]
  exact fun h' => h (h' k hk)

set_option maxRecDepth 100000 in
set_option maxHeartbeats 1000000 in
theorem specSubOk_some (b off cap : Nat) (s : List B) (w : World) (hs : s.length ≤ 1048576) (hst : tot s ≤ 1048576) (hA : AtB w b off s) (hF : FitB s) :
    Calls Try.prog 39 #[.slice (some ⟨b, off, none⟩) s.length cap] w fun e w' => e = .returned (.bool (subOk s)) ∧ Below w.heap.size w w' := by
  go_enter Try.func39, Try.ntmps39
  go_wp2
  go_loopw [3] (fun i wr => ∃ (k : Nat), k ≤ s.length ∧ i = .int .i64 k ∧ (∀ j, (h : j < s.length) → j < k → OkAt s j s[j]) ∧ Below w.heap.size w wr) (fun i _ => s.length - (intOf i).toNat)
  case atStart => exact ⟨0, Nat.zero_le _, rfl, fun j _ h => absurd h (Nat.not_lt_zero _), Below.refl _ _⟩
  case round =>
    obtain ⟨k, hk, rfl, hall, hB⟩ := hrel
    have HALL := hide hall
    clear hall
    by_cases hlt : k < s.length
    · obtain ⟨c0, ao, cp, c1, hc, hcm, hR⟩ := (hA.below hB) k hlt
      have hbl : b < wr.heap.size := World.block_lt_of_cell? wr ⟨b, _, none⟩ c0
      have hf := (hF _ (List.getElem_mem hlt)).1
      have hml := Nat.le_trans (tot_mem (List.getElem_mem hlt)) hst
      have HNO : Hid (¬ OkAt s k s[k] → subOk s = false) := subOk_no hlt
      obtain ⟨y, hy⟩ : ∃ y, y = s[k] := ⟨_, rfl⟩
      rw [← hy] at c0 c1 hf hR hml HNO
      have HY := hide hy
      clear hy hc hcm
      have HR := hide hR
      have HF := hide hf
      clear hR hf
      by_cases hr : 0 ≤ y.v ∧ y.v ≤ 99999
      · have hd : decide (0 ≤ y.v ∧ y.v ≤ 99999) = true := by simpa using hr
        have HRG := hide hr
        clear hr
        have hml2 : y.t.length ≤ maxLen := by unfold maxLen; omega
        cases hok : trm y.t with
        | false =>
          have HE := hide (unhide HNO (fun h => by have := h.2.1; rw [hok] at this; cases this))
          go_wp2
          refine wp_region_any (by kernel_rfl) ?_
          try (change wpAny _ _ _ _ _ _ _ (World.drew _))
          refine wpAny_take (i := 0) (v := ?v0) rfl (by kernel_rfl) (by kernel_rfl) (by kernel_rfl) (fun _ _ _ h => h) (Or.inl ⟨by rfl, ?y0⟩) ?_
          case y0 => (intro w; go_simp; first | done | with_reducible rfl)
          simp only [Act.put, List.getElem_toArray, List.getElem_cons_zero, List.getElem_cons_succ, List.setIfInBounds_toArray, List.set_cons_zero, List.set_cons_succ]
          refine wpAny_take (i := 1) (v := ?v1) rfl (by kernel_rfl) (by kernel_rfl) (by kernel_rfl) (fun _ _ _ h => h) (Or.inl ⟨by rfl, ?y1⟩) ?_
          case y1 => (intro w; go_simp; first | done | with_reducible rfl)
          simp only [Act.put, List.getElem_toArray, List.getElem_cons_zero, List.getElem_cons_succ, List.setIfInBounds_toArray, List.set_cons_zero, List.set_cons_succ]
          refine wpAny_take (i := 2) (v := ?v2) rfl (by kernel_rfl) (by kernel_rfl) (by kernel_rfl) (fun _ _ _ h => h) (Or.inl ⟨by rfl, ?y2⟩) ?_
          case y2 => (intro w; go_simp; first | done | with_reducible rfl)
          simp only [Act.put, List.getElem_toArray, List.getElem_cons_zero, List.getElem_cons_succ, List.setIfInBounds_toArray, List.set_cons_zero, List.set_cons_succ]
          refine wpAny_take (i := 3) (v := ?v3) rfl (by kernel_rfl) (by kernel_rfl) (by kernel_rfl) (fun _ _ _ h => h) (Or.inl ⟨by rfl, ?y3⟩) ?_
          case y3 => (intro w; go_simp; first | done | with_reducible rfl)
          simp only [Act.put, List.getElem_toArray, List.getElem_cons_zero, List.getElem_cons_succ, List.setIfInBounds_toArray, List.set_cons_zero, List.set_cons_succ]
          refine wpAny_ready (rs := [4]) (by kernel_rfl) (by simp) ?_
          refine AllReady.cons rfl (fun K hK => ?_) AllReady.nil
          go_simp
          try (refine hK _ _ ?_; clear hK K)
          refine wpAny_ready (rs := [5]) (by kernel_rfl) (by simp) ?_
          refine AllReady.cons rfl (fun K hK => ?_) AllReady.nil
          go_simp
          go_wp2_with (go_at_call 72; refine (l1In_any y.v 0 99999 _).mono ?_; rw [hd]; rintro e w0 ⟨rfl, rfl⟩)
          try (refine hK _ _ ?_; clear hK K)
          refine wpAny_take (i := 6) (v := ?v6) rfl (by kernel_rfl) (by kernel_rfl) (by kernel_rfl) (fun _ _ _ h => h) (Or.inl ⟨by rfl, ?y6⟩) ?_
          case y6 => (intro w; go_simp; first | done | with_reducible rfl)
          simp only [Act.put, List.getElem_toArray, List.getElem_cons_zero, List.getElem_cons_succ, List.setIfInBounds_toArray, List.set_cons_zero, List.set_cons_succ]
          refine wpAny_take (i := 7) (v := ?v7) rfl (by kernel_rfl) (by kernel_rfl) (by kernel_rfl) (fun _ _ _ h => h) (Or.inl ⟨by rfl, ?y7⟩) ?_
          case y7 => (intro w; go_simp; first | done | with_reducible rfl)
          simp only [Act.put, List.getElem_toArray, List.getElem_cons_zero, List.getElem_cons_succ, List.setIfInBounds_toArray, List.set_cons_zero, List.set_cons_succ]
          refine wpAny_take (i := 8) (v := ?v8) rfl (by kernel_rfl) (by kernel_rfl) (by kernel_rfl) (fun _ _ _ h => h) (Or.inl ⟨by rfl, ?y8⟩) ?_
          case y8 => (intro w; go_simp; first | done | with_reducible rfl)
          simp only [Act.put, List.getElem_toArray, List.getElem_cons_zero, List.getElem_cons_succ, List.setIfInBounds_toArray, List.set_cons_zero, List.set_cons_succ]
          refine wpAny_take (i := 9) (v := ?v9) rfl (by kernel_rfl) (by kernel_rfl) (by kernel_rfl) (fun _ _ _ h => h) (Or.inl ⟨by rfl, ?y9⟩) ?_
          case y9 => (intro w; go_simp; first | done | with_reducible rfl)
          simp only [Act.put, List.getElem_toArray, List.getElem_cons_zero, List.getElem_cons_succ, List.setIfInBounds_toArray, List.set_cons_zero, List.set_cons_succ]
          refine wpAny_take (i := 10) (v := ?v10) rfl (by kernel_rfl) (by kernel_rfl) (by kernel_rfl) (fun _ _ _ h => h) (Or.inl ⟨by rfl, ?y10⟩) ?_
          case y10 => (intro w; go_simp; first | done | with_reducible rfl)
          simp only [Act.put, List.getElem_toArray, List.getElem_cons_zero, List.getElem_cons_succ, List.setIfInBounds_toArray, List.set_cons_zero, List.set_cons_succ]
          refine wpAny_take (i := 11) (v := ?v11) rfl (by kernel_rfl) (by kernel_rfl) (by kernel_rfl) (fun _ _ _ h => h) (Or.inl ⟨by rfl, ?y11⟩) ?_
          case y11 => (intro w; go_simp; first | done | with_reducible rfl)
          simp only [Act.put, List.getElem_toArray, List.getElem_cons_zero, List.getElem_cons_succ, List.setIfInBounds_toArray, List.set_cons_zero, List.set_cons_succ]
          refine wpAny_ready (rs := [12]) (by kernel_rfl) (by simp) ?_
          refine AllReady.cons rfl (fun K hK => ?_) AllReady.nil
          go_simp
          try (refine hK _ _ ?_; clear hK K)
          refine wpAny_ready (rs := [13]) (by kernel_rfl) (by simp) ?_
          refine AllReady.cons rfl (fun K hK => ?_) AllReady.nil
          go_simp
          go_wp2_with (go_at_call 29; refine (specTrmOk_any ao cp y.t _ hml2 (by exact unhide HR) (unhide HF)).mono ?_; rw [hok]; rintro e w1 ⟨rfl, hb1⟩)
          try (refine hK _ _ ?_; clear hK K)
          refine wpAny_take (i := 14) (v := ?v14) rfl (by kernel_rfl) (by kernel_rfl) (by kernel_rfl) (fun _ _ _ h => h) (Or.inl ⟨by rfl, ?y14⟩) ?_
          case y14 => (intro w; go_simp; first | done | with_reducible rfl)
          simp only [Act.put, List.getElem_toArray, List.getElem_cons_zero, List.getElem_cons_succ, List.setIfInBounds_toArray, List.set_cons_zero, List.set_cons_succ]
          refine wpAny_take (i := 15) (v := ?v15) rfl (by kernel_rfl) (by kernel_rfl) (by kernel_rfl) (fun _ _ _ h => h) (Or.inl ⟨by rfl, ?y15⟩) ?_
          case y15 => (intro w; go_simp; first | done | with_reducible rfl)
          simp only [Act.put, List.getElem_toArray, List.getElem_cons_zero, List.getElem_cons_succ, List.setIfInBounds_toArray, List.set_cons_zero, List.set_cons_succ]
          refine wpAny_take (i := 16) (v := ?v16) rfl (by kernel_rfl) (by kernel_rfl) (by kernel_rfl) (fun _ _ _ h => h) (Or.inl ⟨by rfl, ?y16⟩) ?_
          case y16 => (intro w; go_simp; first | done | with_reducible rfl)
          simp only [Act.put, List.getElem_toArray, List.getElem_cons_zero, List.getElem_cons_succ, List.setIfInBounds_toArray, List.set_cons_zero, List.set_cons_succ]
          refine wpAny_take (i := 17) (v := undef) rfl (by kernel_rfl) (by kernel_rfl) (by kernel_rfl) (fun _ _ _ h => h) (Or.inr ⟨by rfl, rfl⟩) ?_
          simp only [Act.put, List.getElem_toArray, List.getElem_cons_zero, List.getElem_cons_succ, List.setIfInBounds_toArray, List.set_cons_zero, List.set_cons_succ]
          refine wpAny_take (i := 18) (v := undef) rfl (by kernel_rfl) (by kernel_rfl) (by kernel_rfl) (fun _ _ _ h => h) (Or.inr ⟨by rfl, rfl⟩) ?_
          simp only [Act.put, List.getElem_toArray, List.getElem_cons_zero, List.getElem_cons_succ, List.setIfInBounds_toArray, List.set_cons_zero, List.set_cons_succ]
          refine wpAny_take (i := 19) (v := undef) rfl (by kernel_rfl) (by kernel_rfl) (by kernel_rfl) (fun _ _ _ h => h) (Or.inr ⟨by rfl, rfl⟩) ?_
          simp only [Act.put, List.getElem_toArray, List.getElem_cons_zero, List.getElem_cons_succ, List.setIfInBounds_toArray, List.set_cons_zero, List.set_cons_succ]
          refine wpAny_take (i := 20) (v := undef) rfl (by kernel_rfl) (by kernel_rfl) (by kernel_rfl) (fun _ _ _ h => h) (Or.inr ⟨by rfl, rfl⟩) ?_
          simp only [Act.put, List.getElem_toArray, List.getElem_cons_zero, List.getElem_cons_succ, List.setIfInBounds_toArray, List.set_cons_zero, List.set_cons_succ]
          refine wpAny_take (i := 21) (v := undef) rfl (by kernel_rfl) (by kernel_rfl) (by kernel_rfl) (fun _ _ _ h => h) (Or.inr ⟨by rfl, rfl⟩) ?_
          simp only [Act.put, List.getElem_toArray, List.getElem_cons_zero, List.getElem_cons_succ, List.setIfInBounds_toArray, List.set_cons_zero, List.set_cons_succ]
          refine wpAny_take (i := 22) (v := undef) rfl (by kernel_rfl) (by kernel_rfl) (by kernel_rfl) (fun _ _ _ h => h) (Or.inr ⟨by rfl, rfl⟩) ?_
          simp only [Act.put, List.getElem_toArray, List.getElem_cons_zero, List.getElem_cons_succ, List.setIfInBounds_toArray, List.set_cons_zero, List.set_cons_succ]
          refine wpAny_take (i := 23) (v := undef) rfl (by kernel_rfl) (by kernel_rfl) (by kernel_rfl) (fun _ _ _ h => h) (Or.inr ⟨by rfl, rfl⟩) ?_
          simp only [Act.put, List.getElem_toArray, List.getElem_cons_zero, List.getElem_cons_succ, List.setIfInBounds_toArray, List.set_cons_zero, List.set_cons_succ]
          refine wpAny_take (i := 24) (v := undef) rfl (by kernel_rfl) (by kernel_rfl) (by kernel_rfl) (fun _ _ _ h => h) (Or.inr ⟨by rfl, rfl⟩) ?_
          simp only [Act.put, List.getElem_toArray, List.getElem_cons_zero, List.getElem_cons_succ, List.setIfInBounds_toArray, List.set_cons_zero, List.set_cons_succ]
          refine wpAny_take (i := 25) (v := undef) rfl (by kernel_rfl) (by kernel_rfl) (by kernel_rfl) (fun _ _ _ h => h) (Or.inr ⟨by rfl, rfl⟩) ?_
          simp only [Act.put, List.getElem_toArray, List.getElem_cons_zero, List.getElem_cons_succ, List.setIfInBounds_toArray, List.set_cons_zero, List.set_cons_succ]
          refine wpAny_take (i := 26) (v := undef) rfl (by kernel_rfl) (by kernel_rfl) (by kernel_rfl) (fun _ _ _ h => h) (Or.inr ⟨by rfl, rfl⟩) ?_
          simp only [Act.put, List.getElem_toArray, List.getElem_cons_zero, List.getElem_cons_succ, List.setIfInBounds_toArray, List.set_cons_zero, List.set_cons_succ]
          refine wpAny_take (i := 27) (v := undef) rfl (by kernel_rfl) (by kernel_rfl) (by kernel_rfl) (fun _ _ _ h => h) (Or.inr ⟨by rfl, rfl⟩) ?_
          simp only [Act.put, List.getElem_toArray, List.getElem_cons_zero, List.getElem_cons_succ, List.setIfInBounds_toArray, List.set_cons_zero, List.set_cons_succ]
          refine wpAny_take (i := 28) (v := undef) rfl (by kernel_rfl) (by kernel_rfl) (by kernel_rfl) (fun _ _ _ h => h) (Or.inr ⟨by rfl, rfl⟩) ?_
          simp only [Act.put, List.getElem_toArray, List.getElem_cons_zero, List.getElem_cons_succ, List.setIfInBounds_toArray, List.set_cons_zero, List.set_cons_succ]
          refine wpAny_take (i := 29) (v := undef) rfl (by kernel_rfl) (by kernel_rfl) (by kernel_rfl) (fun _ _ _ h => h) (Or.inr ⟨by rfl, rfl⟩) ?_
          simp only [Act.put, List.getElem_toArray, List.getElem_cons_zero, List.getElem_cons_succ, List.setIfInBounds_toArray, List.set_cons_zero, List.set_cons_succ]
          refine wpAny_take (i := 30) (v := ?v30) rfl (by kernel_rfl) (by kernel_rfl) (by kernel_rfl) (fun _ _ _ h => h) (Or.inl ⟨by rfl, ?y30⟩) ?_
          case y30 => (intro w; go_simp; first | done | with_reducible rfl)
          simp only [Act.put, List.getElem_toArray, List.getElem_cons_zero, List.getElem_cons_succ, List.setIfInBounds_toArray, List.set_cons_zero, List.set_cons_succ]
          refine wpAny_done (by kernel_rfl) ?_ _
          all_goals go_wp2
          all_goals go_ret
          all_goals exact ⟨ret_bool (unhide HE).symm, bstep hB.drew (by assumption)⟩
        | true =>
          have HOK := hide hok
          by_cases hre : Reach s y.t y.v
          · have HE := hide (unhide HNO (fun h => h.2.2.1 hre))
            have HRE := hide hre
            clear hre
            go_wp2
            first | (go_region_held3 (fun w' => w'.cell? ⟨b, off + k * 2, none⟩ = some (.int .i64 y.v) ∧ w'.cell? ⟨b, off + k * 2 + 1, none⟩ = some (.slice ao y.t.length cp)) (first | (refine ⟨?_, ?_⟩ <;> assumption) | go_keep) (first | (go_at_call 72; refine (l1In_any y.v 0 99999 _).mono ?_; rw [hd]; rintro e w0 ⟨rfl, rfl⟩) | (go_at_call 29; refine (specTrmOk_any ao cp y.t _ hml2 (by exact unhide HR) (unhide HF)).mono ?_; rw [hok]; rintro e w1 ⟨rfl, hb1⟩; have q0 := (hb1.cell (p := ⟨b, off + k * 2, none⟩) hbl).trans c0; have q1 := (hb1.cell (p := ⟨b, off + k * 2 + 1, none⟩) hbl).trans c1; have hbl1 : b < w1.heap.size := World.block_lt_of_cell? w1 ⟨b, _, none⟩ q0) | (go_at_call 82; refine (l2Leads_any (some ⟨b, off, none⟩) cap s ao cp y.t w1 hs hml hst (.inr ⟨b, off, rfl, (hA.below hB.drew).below hb1⟩) (Row.below (w := wr.drew) (by exact unhide HR) hb1)).mono ?_; rintro e w2 ⟨v2, out, rfl, hO2, hL2, hol2, hb2⟩; obtain ⟨oa, oc, rfl, hRo⟩ := hO2.shape; have r0 := (hb2.cell (p := ⟨b, off + k * 2, none⟩) hbl1).trans q0; have r1 := (hb2.cell (p := ⟨b, off + k * 2 + 1, none⟩) hbl1).trans q1; have hdd : decide (y.v ∈ out) = true := by (have := (hL2 y.v).2 (unhide HRE); simpa using this)) | (go_at_call 81; refine (l1Has_any oa oc out y.v _ (by unfold maxLen; omega) hRo).mono ?_; rw [hdd]; rintro e w3 ⟨rfl, rfl⟩))) | fail
            all_goals go_wp2
            all_goals go_ret
            all_goals exact ⟨ret_bool (unhide HE).symm, bstep (bstep hB.drew (by assumption)) (by assumption)⟩
          · have HNR := hide hre
            clear hre
            go_wp2
            first | (go_region_held3 (fun w' => w'.cell? ⟨b, off + k * 2, none⟩ = some (.int .i64 y.v) ∧ w'.cell? ⟨b, off + k * 2 + 1, none⟩ = some (.slice ao y.t.length cp)) (first | (refine ⟨?_, ?_⟩ <;> assumption) | go_keep) (first | (go_at_call 72; refine (l1In_any y.v 0 99999 _).mono ?_; rw [hd]; rintro e w0 ⟨rfl, rfl⟩) | (go_at_call 29; refine (specTrmOk_any ao cp y.t _ hml2 (by exact unhide HR) (unhide HF)).mono ?_; rw [hok]; rintro e w1 ⟨rfl, hb1⟩; have q0 := (hb1.cell (p := ⟨b, off + k * 2, none⟩) hbl).trans c0; have q1 := (hb1.cell (p := ⟨b, off + k * 2 + 1, none⟩) hbl).trans c1; have hbl1 : b < w1.heap.size := World.block_lt_of_cell? w1 ⟨b, _, none⟩ q0) | (go_at_call 82; refine (l2Leads_any (some ⟨b, off, none⟩) cap s ao cp y.t w1 hs hml hst (.inr ⟨b, off, rfl, (hA.below hB.drew).below hb1⟩) (Row.below (w := wr.drew) (by exact unhide HR) hb1)).mono ?_; rintro e w2 ⟨v2, out, rfl, hO2, hL2, hol2, hb2⟩; obtain ⟨oa, oc, rfl, hRo⟩ := hO2.shape; have r0 := (hb2.cell (p := ⟨b, off + k * 2, none⟩) hbl1).trans q0; have r1 := (hb2.cell (p := ⟨b, off + k * 2 + 1, none⟩) hbl1).trans q1; have hdd : decide (y.v ∈ out) = false := by (have := fun h => unhide HNR ((hL2 y.v).1 h); simpa using this)) | (go_at_call 81; refine (l1Has_any oa oc out y.v _ (by unfold maxLen; omega) hRo).mono ?_; rw [hdd]; rintro e w3 ⟨rfl, rfl⟩))) | fail
            have hB2 := bstep (bstep hB.drew (by assumption)) (by assumption)
            have HOKK : Hid ((∀ j, (h : j < s.length) → j < k → s[j].v ≠ y.v) → OkAt s k y) := fun h => ⟨unhide HRG, unhide HOK, unhide HNR, h⟩
            clear c0 c1 HR HF
            go_wp2
            go_loopw [4] (fun i wq => ∃ (j : Nat), j ≤ k ∧ i = .int .i64 j ∧ (∀ m, (h : m < s.length) → m < j → s[m].v ≠ y.v) ∧ Below w.heap.size w wq) (fun i _ => k - (intOf i).toNat)
            case atStart => exact ⟨0, Nat.zero_le _, rfl, fun m _ h => absurd h (Nat.not_lt_zero _), hB2⟩
            case round =>
              clear hB2
              obtain ⟨j, hj, rfl, hne, hBq⟩ := hrel
              have HNE := hide hne
              clear hne
              by_cases hjk : j < k
              · have hjs : j < s.length := by omega
                obtain ⟨d0, _⟩ := (hA.below hBq) j hjs
                obtain ⟨e0, _⟩ := (hA.below hBq) k hlt
                rw [← unhide HY] at e0
                have HST : Hid (s[j].v ≠ y.v → ∀ m, (h : m < s.length) → m < j + 1 → s[m].v ≠ y.v) := fun h m hm hmj => by
                  by_cases e : m = j
                  · subst e; exact h
                  · exact unhide HNE m hm (by omega)
                have HBAD : Hid (s[j].v = y.v → ¬ OkAt s k y) := fun h ho => ho.2.2.2 j hjs hjk h
                obtain ⟨x, hx⟩ : ∃ x, x = s[j] := ⟨_, rfl⟩
                rw [← hx] at d0 HST HBAD
                clear hx
                by_cases hv : x.v = y.v
                · have hbv : (x.v == y.v) = true := by simpa using hv
                  have HE := hide (unhide HNO (unhide HBAD hv))
                  clear hv
                  go_wp2
                  go_quiet (fail)
                  go_wp2
                  go_ret
                  exact ⟨ret_bool (unhide HE).symm, below_drewN hBq _⟩
                · have hbv : (x.v == y.v) = false := by simpa using hv
                  have HS2 := hide (unhide HST hv)
                  clear hv
                  go_wp2
                  go_quiet (fail)
                  go_wp2
                  go_roundw
                  case rel => exact ⟨j + 1, by omega, by go_num, unhide HS2, below_drewN hBq _⟩
                  case measure => simp [intOf]; omega
              · have e : j = k := by omega
                subst e
                have HK := hide (unhide HOKK (unhide HNE))
                go_wp2
                go_roundw
                case rel =>
                  refine ⟨j + 1, by omega, by go_num, fun m hm hmj => ?_, hBq⟩
                  by_cases e : m = j
                  · subst e
                    rw [← unhide HY]
                    exact unhide HK
                  · exact unhide HALL m hm (by omega)
                case measure => simp [intOf]; omega
      · have hd : decide (0 ≤ y.v ∧ y.v ≤ 99999) = false := by simpa using hr
        have HE := hide (unhide HNO (fun h => hr h.1))
        go_wp2
        go_quiet (first | (go_at_call 72; have hq := l1In_any y.v 0 99999; rw [hd] at hq; exact Calls.quiet_of_same (hq _)))
        all_goals go_wp2
        all_goals go_ret
        all_goals exact ⟨ret_bool (unhide HE).symm, below_drewN hB _⟩
    · have e : k = s.length := by omega
      subst e
      have HE := hide (subOk_yes (s := s) (fun j hj => unhide HALL j hj hj))
      go_wp2
      go_ret
      exact ⟨ret_bool (unhide HE).symm, hB⟩

set_option maxRecDepth 100000 in
theorem specSubOk_none (ao : Option Addr) (cap : Nat) (w : World) :
    Calls Try.prog 39 #[.slice ao 0 cap] w fun e w' => e = .returned (.bool (subOk [])) ∧ Below w.heap.size w w' := by
  have HE := hide (subOk_yes (s := []) (fun j hj => by simp at hj))
  go_enter Try.func39, Try.ntmps39
  go_wp2
  refine wp_loop_rounds 1 ?_
  rw [rounds_succ]
  go_wp2
  go_ret
  exact ⟨ret_bool (unhide HE).symm, Below.refl _ _⟩

theorem specSubOk_any (ao : Option Addr) (cap : Nat) (s : List B) (w : World) (hs : s.length ≤ 1048576) (hst : tot s ≤ 1048576) (hA : RowB w ao s) (hF : FitB s) :
    Calls Try.prog 39 #[.slice ao s.length cap] w fun e w' => e = .returned (.bool (subOk s)) ∧ Below w.heap.size w w' := by
  rcases hA with rfl | ⟨b, off, rfl, hA⟩
  · exact specSubOk_none ao cap w
  · exact specSubOk_some b off cap s w hs hst hA hF
end Go.Proofs.Ytddhjafpacgdaaa
