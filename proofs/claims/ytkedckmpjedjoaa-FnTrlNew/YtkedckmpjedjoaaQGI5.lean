/- The walk of mayStand, kind by kind. -/
import Derived.Test.YtkedckmpjedjoaaQGF2GI2GI3GI4
namespace Go.Proofs.Ytkedckmpjedjoaa
open Go.RowKit Go.Shelf
set_option linter.unusedVariables false
set_option linter.unusedSimpArgs false

set_option maxRecDepth 100000 in
theorem nil_call (v : Value) (w : World) : (binOp .eql 212 (.iface 222 v) .nilIface).run Try.prog w = .ok (.bool false) w := by first | kernel_rfl | (simp [binOp, go_sem]; done)
set_option maxRecDepth 100000 in
theorem nil_same (v : Value) (w : World) : (binOp .eql 212 (.iface 241 v) .nilIface).run Try.prog w = .ok (.bool false) w := by first | kernel_rfl | (simp [binOp, go_sem]; done)
set_option maxRecDepth 100000 in
theorem nil_less (v : Value) (w : World) : (binOp .eql 212 (.iface 244 v) .nilIface).run Try.prog w = .ok (.bool false) w := by first | kernel_rfl | (simp [binOp, go_sem]; done)
set_option maxRecDepth 100000 in
theorem nil_plus (v : Value) (w : World) : (binOp .eql 212 (.iface 246 v) .nilIface).run Try.prog w = .ok (.bool false) w := by first | kernel_rfl | (simp [binOp, go_sem]; done)
set_option maxRecDepth 100000 in
theorem nil_cut (v : Value) (w : World) : (binOp .eql 212 (.iface 243 v) .nilIface).run Try.prog w = .ok (.bool false) w := by first | kernel_rfl | (simp [binOp, go_sem]; done)
set_option maxRecDepth 100000 in
theorem nil_exit (v : Value) (w : World) : (binOp .eql 212 (.iface 247 v) .nilIface).run Try.prog w = .ok (.bool false) w := by first | kernel_rfl | (simp [binOp, go_sem]; done)
set_option maxRecDepth 100000 in
set_option maxHeartbeats 1000000 in
theorem mayStand_exit (v : Value) (w : World) : Calls Try.prog 169 #[.iface 247 v] w fun e w' => e = .returned (.bool false) ∧ w' = w := by
  have h0 := nil_exit
  have te := ta_exit_exit
  go_enter Try.func169, Try.ntmps169
  go_wp2
  go_ret
  exact ⟨rfl, rfl⟩
set_option maxRecDepth 100000 in
set_option maxHeartbeats 1000000 in
theorem mayStand_nil (w : World) : Calls Try.prog 169 #[.nilIface] w fun e w' => e = .returned (.bool false) ∧ w' = w := by
  have h0 : ∀ w : World, (binOp .eql 212 .nilIface .nilIface).run Try.prog w = .ok (.bool true) w := fun w => by first | kernel_rfl | (simp [binOp, go_sem]; done)
  have h1 : ∀ w : World, (Instr.typeAssert .nilIface 212 247 true).run Try.prog w = .ok (.tuple #[.agg #[.pointer none], .bool false]) w := fun w => by first | kernel_rfl | (simp [Instr.typeAssert, go_sem]; done)
  go_enter Try.func169, Try.ntmps169
  go_wp2
  go_ret
  exact ⟨rfl, rfl⟩
set_option maxRecDepth 100000 in
set_option maxHeartbeats 4000000 in
theorem mayStand_call (p : Nat) (s : List C) (w : World) (hp : TreIn w p s) :
    Calls Try.prog 169 #[.iface 222 (.agg #[ptrV (some p)])] w fun e w' => e = .returned (.bool (callT s && fitT s)) ∧ Below w.heap.size w w' := by
  have h0 := nil_call
  have te := ta_call_exit
  obtain ⟨c, rr, es, c0⟩ := hp.top
  have HGW := hide (goalWhole_call (some p) w c.k (fun p' e => by cases e; exact c0))
  have hct : callT s = (c.k == 3) := by rw [es]; simp only [callT]; by_cases h : c.k = 3 <;> simp [h]
  clear c0
  by_cases hk3 : c.k = 3
  case neg =>
    have hkb : (c.k == 3) = false := by simpa using hk3
    rw [hkb] at HGW
    have HR : Hid ((callT s && fitT s) = false) := by show (callT s && fitT s) = false; rw [hct, hkb]; rfl
    clear hk3 hct es
    simp only [List.mem_cons, List.mem_nil_iff, or_false, reduceCtorEq, decide_false, Bool.not_false, Bool.true_and, Bool.and_false] at HGW
    go_enter Try.func169, Try.ntmps169
    go_wp2_with (go_at_call 168; refine (unhide HGW).mono ?_; rintro e w1 ⟨rfl, hb1⟩)
    go_ret
    exact ⟨ret_bool (unhide HR).symm, hb1⟩
  have hkb : (c.k == 3) = true := by simpa using hk3
  rw [hkb] at HGW
  have HCT := hide (hct.trans hkb)
  clear hk3 hct es
  simp only [List.mem_cons, List.mem_nil_iff, List.not_mem_nil, or_false, reduceCtorEq, decide_false, Bool.not_false, Bool.true_and, Bool.and_self] at HGW
  have HT0 : Hid (∀ i, (h1 : i < ([p] : List Nat).length) → (h2 : i < ([s] : List (List C)).length) → TreIn w ([p] : List Nat)[i] ([s] : List (List C))[i]) := fun i h1 h2 => by
    match i, h1 with
    | 0, _ => exact hp
  clear hp
  obtain ⟨pl, hpl⟩ : ∃ pl, pl = ([p] : List Nat) := ⟨_, rfl⟩
  obtain ⟨tl, htl⟩ : ∃ tl, tl = ([s] : List (List C)) := ⟨_, rfl⟩
  have hln : pl.length = 1 := by rw [hpl]; rfl
  have hlt' : tl.length = 1 := by rw [htl]; rfl
  have HTM := hide (fun (w1 : World) => terms_call (some p) w1)
  have HOL : Hid (([some p] : List (Option Nat)) = pl.map some) := by rw [hpl]; rfl
  have HT : Hid (∀ i, (h1 : i < pl.length) → (h2 : i < tl.length) → TreIn w pl[i] tl[i]) := fun i h1 h2 => by
    subst hpl
    subst htl
    exact unhide HT0 i h1 h2
  have HRR : Hid ((callT s && fitT s) = tl.all fitT) := by show (callT s && fitT s) = _; rw [htl, unhide HCT]; simp
  go_enter Try.func169, Try.ntmps169
  go_wp2_with (first | (go_at_call 168; refine (unhide HGW).mono ?_; rintro e w1 ⟨rfl, hb1⟩) | (go_at_call 214; refine (unhide HTM w1).mono ?_; rintro e w2 ⟨ao, cap, rfl, hP, hb2⟩; have hB2 := bstep hb1 hb2; rw [unhide HOL] at hP; simp only [List.length_cons, List.length_nil, Nat.zero_add, Nat.reduceAdd]))
  have hk0 : Hid (∀ (W : World), Below w2.heap.size w2 W → ∀ i, (h1 : i < pl.length) → W.cell? ⟨(ao.getD ⟨0, 0, none⟩).block, i, none⟩ = some (.pointer (some ⟨pl[i], 0, none⟩)) ∧ ao = some ⟨(ao.getD ⟨0, 0, none⟩).block, 0, none⟩) := fun W hW i h1 => by
    rcases hP with hP | ⟨b, rfl, hP⟩
    · have hp0 : pl = [] := by simpa using hP
      rw [hp0] at h1
      simp at h1
    · have h2 := (hP.below hW) i (by simp; exact h1)
      rw [List.getElem_map] at h2
      exact ⟨h2, rfl⟩
  clear hP HGW HTM HOL hpl htl h0 te HT0
  go_loopw [17] (fun i wr => ∃ (k : Nat), k ≤ 1 ∧ i = .int .i64 k ∧ (∀ j, (h : j < tl.length) → j < k → fitT tl[j] = true) ∧ Below w2.heap.size w2 wr) (fun i _ => 1 - (intOf i).toNat)
  case atStart => exact ⟨0, Nat.zero_le _, rfl, fun j _ h => absurd h (Nat.not_lt_zero _), Below.refl _ _⟩
  case round =>
    obtain ⟨k, hk, rfl, hg, hB⟩ := hrel
    have HG := hide hg
    clear hg
    by_cases hlt : k < 1
    · have h1 : k < pl.length := by omega
      have h2 : k < tl.length := by omega
      obtain ⟨cc, hao⟩ := unhide hk0 wr hB k h1
      have hBw := bstep hB2 hB
      have HF := hide (fits_tree ((unhide HT k h1 h2).below hBw))
      have HNO : Hid (fitT tl[k] = false → tl.all fitT = false) := fun e => by
        rw [List.all_eq_false]
        exact ⟨tl[k], List.getElem_mem h2, by rw [e]; simp⟩
      have HYS : Hid (fitT tl[k] = true → ∀ j, (h : j < tl.length) → j < k + 1 → fitT tl[j] = true) := fun e j hj hjk => by
        by_cases e2 : j = k
        · subst e2; exact e
        · exact unhide HG j hj (by omega)
      generalize (ao.getD ⟨0, 0, none⟩).block = bb at cc hao
      subst hao
      generalize pl[k] = pk at cc HF
      cases hft : fitT tl[k] with
      | false =>
        rw [hft] at HF
        have HN := hide (unhide HNO hft)
        clear hft
        go_wp2_with fail
        refine (unhide HF).mono ?_
        rintro e w3 ⟨rfl, hb3⟩
        go_wp2
        go_ret
        exact ⟨ret_bool (by rw [unhide HRR, unhide HN]), bstep hBw hb3⟩
      | true =>
        rw [hft] at HF
        have HN := hide (unhide HYS hft)
        clear hft
        go_wp2_with fail
        refine (unhide HF).mono ?_
        rintro e w3 ⟨rfl, hb3⟩
        go_wp2
        go_roundw
        case rel => exact ⟨k + 1, by omega, by go_num, unhide HN, bstep hB hb3⟩
        case measure => simp [intOf]; omega
    · have HN : Hid (tl.all fitT = true) := by
        show tl.all fitT = true
        rw [List.all_eq_true]
        intro x hx
        obtain ⟨j, hj, rfl⟩ := List.getElem_of_mem hx
        exact unhide HG j hj (by omega)
      go_wp2
      go_ret
      exact ⟨ret_bool (by rw [unhide HRR, unhide HN]), bstep hB2 hB⟩
set_option maxRecDepth 100000 in
set_option maxHeartbeats 4000000 in
theorem mayStand_same (p : Nat) (q : Nat) (s : List C) (t : List C) (w : World) (hp : TreIn w p s) (hq : TreIn w q t) :
    Calls Try.prog 169 #[.iface 241 (.agg #[ptrV (some p), ptrV (some q)])] w fun e w' => e = .returned (.bool (([s, t] : List (List C)).all fitT)) ∧ Below w.heap.size w w' := by
  have h0 := nil_same
  have te := ta_same_exit
  have HGW := hide (goalWhole_same (some p) (some q) w)
  simp only [List.mem_cons, List.mem_nil_iff, List.not_mem_nil, or_false, reduceCtorEq, decide_false, Bool.not_false, Bool.true_and, Bool.and_self] at HGW
  have HT0 : Hid (∀ i, (h1 : i < ([p, q] : List Nat).length) → (h2 : i < ([s, t] : List (List C)).length) → TreIn w ([p, q] : List Nat)[i] ([s, t] : List (List C))[i]) := fun i h1 h2 => by
    match i, h1 with
    | 0, _ => exact hp
    | 1, _ => exact hq
  clear hp hq
  obtain ⟨pl, hpl⟩ : ∃ pl, pl = ([p, q] : List Nat) := ⟨_, rfl⟩
  obtain ⟨tl, htl⟩ : ∃ tl, tl = ([s, t] : List (List C)) := ⟨_, rfl⟩
  have hln : pl.length = 2 := by rw [hpl]; rfl
  have hlt' : tl.length = 2 := by rw [htl]; rfl
  have HTM := hide (fun (w1 : World) => terms_same (some p) (some q) w1)
  have HOL : Hid (([some p, some q] : List (Option Nat)) = pl.map some) := by rw [hpl]; rfl
  have HT : Hid (∀ i, (h1 : i < pl.length) → (h2 : i < tl.length) → TreIn w pl[i] tl[i]) := fun i h1 h2 => by
    subst hpl
    subst htl
    exact unhide HT0 i h1 h2
  have HRR : Hid (([s, t] : List (List C)).all fitT = tl.all fitT) := by show _ = _; rw [htl]
  go_enter Try.func169, Try.ntmps169
  go_wp2_with (first | (go_at_call 168; refine (unhide HGW).mono ?_; rintro e w1 ⟨rfl, hb1⟩) | (go_at_call 216; refine (unhide HTM w1).mono ?_; rintro e w2 ⟨ao, cap, rfl, hP, hb2⟩; have hB2 := bstep hb1 hb2; rw [unhide HOL] at hP; simp only [List.length_cons, List.length_nil, Nat.zero_add, Nat.reduceAdd]))
  have hk0 : Hid (∀ (W : World), Below w2.heap.size w2 W → ∀ i, (h1 : i < pl.length) → W.cell? ⟨(ao.getD ⟨0, 0, none⟩).block, i, none⟩ = some (.pointer (some ⟨pl[i], 0, none⟩)) ∧ ao = some ⟨(ao.getD ⟨0, 0, none⟩).block, 0, none⟩) := fun W hW i h1 => by
    rcases hP with hP | ⟨b, rfl, hP⟩
    · have hp0 : pl = [] := by simpa using hP
      rw [hp0] at h1
      simp at h1
    · have h2 := (hP.below hW) i (by simp; exact h1)
      rw [List.getElem_map] at h2
      exact ⟨h2, rfl⟩
  clear hP HGW HTM HOL hpl htl h0 te HT0
  go_loopw [17] (fun i wr => ∃ (k : Nat), k ≤ 2 ∧ i = .int .i64 k ∧ (∀ j, (h : j < tl.length) → j < k → fitT tl[j] = true) ∧ Below w2.heap.size w2 wr) (fun i _ => 2 - (intOf i).toNat)
  case atStart => exact ⟨0, Nat.zero_le _, rfl, fun j _ h => absurd h (Nat.not_lt_zero _), Below.refl _ _⟩
  case round =>
    obtain ⟨k, hk, rfl, hg, hB⟩ := hrel
    have HG := hide hg
    clear hg
    by_cases hlt : k < 2
    · have h1 : k < pl.length := by omega
      have h2 : k < tl.length := by omega
      obtain ⟨cc, hao⟩ := unhide hk0 wr hB k h1
      have hBw := bstep hB2 hB
      have HF := hide (fits_tree ((unhide HT k h1 h2).below hBw))
      have HNO : Hid (fitT tl[k] = false → tl.all fitT = false) := fun e => by
        rw [List.all_eq_false]
        exact ⟨tl[k], List.getElem_mem h2, by rw [e]; simp⟩
      have HYS : Hid (fitT tl[k] = true → ∀ j, (h : j < tl.length) → j < k + 1 → fitT tl[j] = true) := fun e j hj hjk => by
        by_cases e2 : j = k
        · subst e2; exact e
        · exact unhide HG j hj (by omega)
      generalize (ao.getD ⟨0, 0, none⟩).block = bb at cc hao
      subst hao
      generalize pl[k] = pk at cc HF
      cases hft : fitT tl[k] with
      | false =>
        rw [hft] at HF
        have HN := hide (unhide HNO hft)
        clear hft
        go_wp2_with fail
        refine (unhide HF).mono ?_
        rintro e w3 ⟨rfl, hb3⟩
        go_wp2
        go_ret
        exact ⟨ret_bool (by rw [unhide HRR, unhide HN]), bstep hBw hb3⟩
      | true =>
        rw [hft] at HF
        have HN := hide (unhide HYS hft)
        clear hft
        go_wp2_with fail
        refine (unhide HF).mono ?_
        rintro e w3 ⟨rfl, hb3⟩
        go_wp2
        go_roundw
        case rel => exact ⟨k + 1, by omega, by go_num, unhide HN, bstep hB hb3⟩
        case measure => simp [intOf]; omega
    · have HN : Hid (tl.all fitT = true) := by
        show tl.all fitT = true
        rw [List.all_eq_true]
        intro x hx
        obtain ⟨j, hj, rfl⟩ := List.getElem_of_mem hx
        exact unhide HG j hj (by omega)
      go_wp2
      go_ret
      exact ⟨ret_bool (by rw [unhide HRR, unhide HN]), bstep hB2 hB⟩
set_option maxRecDepth 100000 in
set_option maxHeartbeats 4000000 in
theorem mayStand_less (p : Nat) (q : Nat) (s : List C) (t : List C) (w : World) (hp : TreIn w p s) (hq : TreIn w q t) :
    Calls Try.prog 169 #[.iface 244 (.agg #[ptrV (some p), ptrV (some q)])] w fun e w' => e = .returned (.bool (([s, t] : List (List C)).all fitT)) ∧ Below w.heap.size w w' := by
  have h0 := nil_less
  have te := ta_less_exit
  have HGW := hide (goalWhole_less (some p) (some q) w)
  simp only [List.mem_cons, List.mem_nil_iff, List.not_mem_nil, or_false, reduceCtorEq, decide_false, Bool.not_false, Bool.true_and, Bool.and_self] at HGW
  have HT0 : Hid (∀ i, (h1 : i < ([p, q] : List Nat).length) → (h2 : i < ([s, t] : List (List C)).length) → TreIn w ([p, q] : List Nat)[i] ([s, t] : List (List C))[i]) := fun i h1 h2 => by
    match i, h1 with
    | 0, _ => exact hp
    | 1, _ => exact hq
  clear hp hq
  obtain ⟨pl, hpl⟩ : ∃ pl, pl = ([p, q] : List Nat) := ⟨_, rfl⟩
  obtain ⟨tl, htl⟩ : ∃ tl, tl = ([s, t] : List (List C)) := ⟨_, rfl⟩
  have hln : pl.length = 2 := by rw [hpl]; rfl
  have hlt' : tl.length = 2 := by rw [htl]; rfl
  have HTM := hide (fun (w1 : World) => terms_less (some p) (some q) w1)
  have HOL : Hid (([some p, some q] : List (Option Nat)) = pl.map some) := by rw [hpl]; rfl
  have HT : Hid (∀ i, (h1 : i < pl.length) → (h2 : i < tl.length) → TreIn w pl[i] tl[i]) := fun i h1 h2 => by
    subst hpl
    subst htl
    exact unhide HT0 i h1 h2
  have HRR : Hid (([s, t] : List (List C)).all fitT = tl.all fitT) := by show _ = _; rw [htl]
  go_enter Try.func169, Try.ntmps169
  go_wp2_with (first | (go_at_call 168; refine (unhide HGW).mono ?_; rintro e w1 ⟨rfl, hb1⟩) | (go_at_call 220; refine (unhide HTM w1).mono ?_; rintro e w2 ⟨ao, cap, rfl, hP, hb2⟩; have hB2 := bstep hb1 hb2; rw [unhide HOL] at hP; simp only [List.length_cons, List.length_nil, Nat.zero_add, Nat.reduceAdd]))
  have hk0 : Hid (∀ (W : World), Below w2.heap.size w2 W → ∀ i, (h1 : i < pl.length) → W.cell? ⟨(ao.getD ⟨0, 0, none⟩).block, i, none⟩ = some (.pointer (some ⟨pl[i], 0, none⟩)) ∧ ao = some ⟨(ao.getD ⟨0, 0, none⟩).block, 0, none⟩) := fun W hW i h1 => by
    rcases hP with hP | ⟨b, rfl, hP⟩
    · have hp0 : pl = [] := by simpa using hP
      rw [hp0] at h1
      simp at h1
    · have h2 := (hP.below hW) i (by simp; exact h1)
      rw [List.getElem_map] at h2
      exact ⟨h2, rfl⟩
  clear hP HGW HTM HOL hpl htl h0 te HT0
  go_loopw [17] (fun i wr => ∃ (k : Nat), k ≤ 2 ∧ i = .int .i64 k ∧ (∀ j, (h : j < tl.length) → j < k → fitT tl[j] = true) ∧ Below w2.heap.size w2 wr) (fun i _ => 2 - (intOf i).toNat)
  case atStart => exact ⟨0, Nat.zero_le _, rfl, fun j _ h => absurd h (Nat.not_lt_zero _), Below.refl _ _⟩
  case round =>
    obtain ⟨k, hk, rfl, hg, hB⟩ := hrel
    have HG := hide hg
    clear hg
    by_cases hlt : k < 2
    · have h1 : k < pl.length := by omega
      have h2 : k < tl.length := by omega
      obtain ⟨cc, hao⟩ := unhide hk0 wr hB k h1
      have hBw := bstep hB2 hB
      have HF := hide (fits_tree ((unhide HT k h1 h2).below hBw))
      have HNO : Hid (fitT tl[k] = false → tl.all fitT = false) := fun e => by
        rw [List.all_eq_false]
        exact ⟨tl[k], List.getElem_mem h2, by rw [e]; simp⟩
      have HYS : Hid (fitT tl[k] = true → ∀ j, (h : j < tl.length) → j < k + 1 → fitT tl[j] = true) := fun e j hj hjk => by
        by_cases e2 : j = k
        · subst e2; exact e
        · exact unhide HG j hj (by omega)
      generalize (ao.getD ⟨0, 0, none⟩).block = bb at cc hao
      subst hao
      generalize pl[k] = pk at cc HF
      cases hft : fitT tl[k] with
      | false =>
        rw [hft] at HF
        have HN := hide (unhide HNO hft)
        clear hft
        go_wp2_with fail
        refine (unhide HF).mono ?_
        rintro e w3 ⟨rfl, hb3⟩
        go_wp2
        go_ret
        exact ⟨ret_bool (by rw [unhide HRR, unhide HN]), bstep hBw hb3⟩
      | true =>
        rw [hft] at HF
        have HN := hide (unhide HYS hft)
        clear hft
        go_wp2_with fail
        refine (unhide HF).mono ?_
        rintro e w3 ⟨rfl, hb3⟩
        go_wp2
        go_roundw
        case rel => exact ⟨k + 1, by omega, by go_num, unhide HN, bstep hB hb3⟩
        case measure => simp [intOf]; omega
    · have HN : Hid (tl.all fitT = true) := by
        show tl.all fitT = true
        rw [List.all_eq_true]
        intro x hx
        obtain ⟨j, hj, rfl⟩ := List.getElem_of_mem hx
        exact unhide HG j hj (by omega)
      go_wp2
      go_ret
      exact ⟨ret_bool (by rw [unhide HRR, unhide HN]), bstep hB2 hB⟩
set_option maxRecDepth 100000 in
set_option maxHeartbeats 4000000 in
theorem mayStand_plus (p : Nat) (q : Nat) (r : Nat) (s : List C) (t : List C) (u : List C) (w : World) (hp : TreIn w p s) (hq : TreIn w q t) (hr : TreIn w r u) :
    Calls Try.prog 169 #[.iface 246 (.agg #[ptrV (some p), ptrV (some q), ptrV (some r)])] w fun e w' => e = .returned (.bool (([s, t, u] : List (List C)).all fitT)) ∧ Below w.heap.size w w' := by
  have h0 := nil_plus
  have te := ta_plus_exit
  have HGW := hide (goalWhole_plus (some p) (some q) (some r) w)
  simp only [List.mem_cons, List.mem_nil_iff, List.not_mem_nil, or_false, reduceCtorEq, decide_false, Bool.not_false, Bool.true_and, Bool.and_self] at HGW
  have HT0 : Hid (∀ i, (h1 : i < ([p, q, r] : List Nat).length) → (h2 : i < ([s, t, u] : List (List C)).length) → TreIn w ([p, q, r] : List Nat)[i] ([s, t, u] : List (List C))[i]) := fun i h1 h2 => by
    match i, h1 with
    | 0, _ => exact hp
    | 1, _ => exact hq
    | 2, _ => exact hr
  clear hp hq hr
  obtain ⟨pl, hpl⟩ : ∃ pl, pl = ([p, q, r] : List Nat) := ⟨_, rfl⟩
  obtain ⟨tl, htl⟩ : ∃ tl, tl = ([s, t, u] : List (List C)) := ⟨_, rfl⟩
  have hln : pl.length = 3 := by rw [hpl]; rfl
  have hlt' : tl.length = 3 := by rw [htl]; rfl
  have HTM := hide (fun (w1 : World) => terms_plus (some p) (some q) (some r) w1)
  have HOL : Hid (([some p, some q, some r] : List (Option Nat)) = pl.map some) := by rw [hpl]; rfl
  have HT : Hid (∀ i, (h1 : i < pl.length) → (h2 : i < tl.length) → TreIn w pl[i] tl[i]) := fun i h1 h2 => by
    subst hpl
    subst htl
    exact unhide HT0 i h1 h2
  have HRR : Hid (([s, t, u] : List (List C)).all fitT = tl.all fitT) := by show _ = _; rw [htl]
  go_enter Try.func169, Try.ntmps169
  go_wp2_with (first | (go_at_call 168; refine (unhide HGW).mono ?_; rintro e w1 ⟨rfl, hb1⟩) | (go_at_call 222; refine (unhide HTM w1).mono ?_; rintro e w2 ⟨ao, cap, rfl, hP, hb2⟩; have hB2 := bstep hb1 hb2; rw [unhide HOL] at hP; simp only [List.length_cons, List.length_nil, Nat.zero_add, Nat.reduceAdd]))
  have hk0 : Hid (∀ (W : World), Below w2.heap.size w2 W → ∀ i, (h1 : i < pl.length) → W.cell? ⟨(ao.getD ⟨0, 0, none⟩).block, i, none⟩ = some (.pointer (some ⟨pl[i], 0, none⟩)) ∧ ao = some ⟨(ao.getD ⟨0, 0, none⟩).block, 0, none⟩) := fun W hW i h1 => by
    rcases hP with hP | ⟨b, rfl, hP⟩
    · have hp0 : pl = [] := by simpa using hP
      rw [hp0] at h1
      simp at h1
    · have h2 := (hP.below hW) i (by simp; exact h1)
      rw [List.getElem_map] at h2
      exact ⟨h2, rfl⟩
  clear hP HGW HTM HOL hpl htl h0 te HT0
  go_loopw [17] (fun i wr => ∃ (k : Nat), k ≤ 3 ∧ i = .int .i64 k ∧ (∀ j, (h : j < tl.length) → j < k → fitT tl[j] = true) ∧ Below w2.heap.size w2 wr) (fun i _ => 3 - (intOf i).toNat)
  case atStart => exact ⟨0, Nat.zero_le _, rfl, fun j _ h => absurd h (Nat.not_lt_zero _), Below.refl _ _⟩
  case round =>
    obtain ⟨k, hk, rfl, hg, hB⟩ := hrel
    have HG := hide hg
    clear hg
    by_cases hlt : k < 3
    · have h1 : k < pl.length := by omega
      have h2 : k < tl.length := by omega
      obtain ⟨cc, hao⟩ := unhide hk0 wr hB k h1
      have hBw := bstep hB2 hB
      have HF := hide (fits_tree ((unhide HT k h1 h2).below hBw))
      have HNO : Hid (fitT tl[k] = false → tl.all fitT = false) := fun e => by
        rw [List.all_eq_false]
        exact ⟨tl[k], List.getElem_mem h2, by rw [e]; simp⟩
      have HYS : Hid (fitT tl[k] = true → ∀ j, (h : j < tl.length) → j < k + 1 → fitT tl[j] = true) := fun e j hj hjk => by
        by_cases e2 : j = k
        · subst e2; exact e
        · exact unhide HG j hj (by omega)
      generalize (ao.getD ⟨0, 0, none⟩).block = bb at cc hao
      subst hao
      generalize pl[k] = pk at cc HF
      cases hft : fitT tl[k] with
      | false =>
        rw [hft] at HF
        have HN := hide (unhide HNO hft)
        clear hft
        go_wp2_with fail
        refine (unhide HF).mono ?_
        rintro e w3 ⟨rfl, hb3⟩
        go_wp2
        go_ret
        exact ⟨ret_bool (by rw [unhide HRR, unhide HN]), bstep hBw hb3⟩
      | true =>
        rw [hft] at HF
        have HN := hide (unhide HYS hft)
        clear hft
        go_wp2_with fail
        refine (unhide HF).mono ?_
        rintro e w3 ⟨rfl, hb3⟩
        go_wp2
        go_roundw
        case rel => exact ⟨k + 1, by omega, by go_num, unhide HN, bstep hB hb3⟩
        case measure => simp [intOf]; omega
    · have HN : Hid (tl.all fitT = true) := by
        show tl.all fitT = true
        rw [List.all_eq_true]
        intro x hx
        obtain ⟨j, hj, rfl⟩ := List.getElem_of_mem hx
        exact unhide HG j hj (by omega)
      go_wp2
      go_ret
      exact ⟨ret_bool (by rw [unhide HRR, unhide HN]), bstep hB2 hB⟩
set_option maxRecDepth 100000 in
set_option maxHeartbeats 4000000 in
theorem mayStand_cut   (w : World)  :
    Calls Try.prog 169 #[.iface 243 (.agg #[])] w fun e w' => e = .returned (.bool (([] : List (List C)).all fitT)) ∧ Below w.heap.size w w' := by
  have h0 := nil_cut
  have te := ta_cut_exit
  have HGW := hide (goalWhole_cut  w)
  simp only [List.mem_cons, List.mem_nil_iff, List.not_mem_nil, or_false, reduceCtorEq, decide_false, Bool.not_false, Bool.true_and, Bool.and_self] at HGW
  have HT0 : Hid (∀ i, (h1 : i < ([] : List Nat).length) → (h2 : i < ([] : List (List C)).length) → TreIn w ([] : List Nat)[i] ([] : List (List C))[i]) := fun i h1 h2 => by
    simp at h1
  obtain ⟨pl, hpl⟩ : ∃ pl, pl = ([] : List Nat) := ⟨_, rfl⟩
  obtain ⟨tl, htl⟩ : ∃ tl, tl = ([] : List (List C)) := ⟨_, rfl⟩
  have hln : pl.length = 0 := by rw [hpl]; rfl
  have hlt' : tl.length = 0 := by rw [htl]; rfl
  have HTM := hide (fun (w1 : World) => terms_cut  w1)
  have HOL : Hid (([] : List (Option Nat)) = pl.map some) := by rw [hpl]; rfl
  have HT : Hid (∀ i, (h1 : i < pl.length) → (h2 : i < tl.length) → TreIn w pl[i] tl[i]) := fun i h1 h2 => by
    subst hpl
    subst htl
    exact unhide HT0 i h1 h2
  have HRR : Hid (([] : List (List C)).all fitT = tl.all fitT) := by show _ = _; rw [htl]
  go_enter Try.func169, Try.ntmps169
  go_wp2_with (first | (go_at_call 168; refine (unhide HGW).mono ?_; rintro e w1 ⟨rfl, hb1⟩) | (go_at_call 218; refine (unhide HTM w1).mono ?_; rintro e w2 ⟨ao, cap, rfl, hP, hb2⟩; have hB2 := bstep hb1 hb2; rw [unhide HOL] at hP; simp only [List.length_cons, List.length_nil, Nat.zero_add, Nat.reduceAdd]))
  have hk0 : Hid (∀ (W : World), Below w2.heap.size w2 W → ∀ i, (h1 : i < pl.length) → W.cell? ⟨(ao.getD ⟨0, 0, none⟩).block, i, none⟩ = some (.pointer (some ⟨pl[i], 0, none⟩)) ∧ ao = some ⟨(ao.getD ⟨0, 0, none⟩).block, 0, none⟩) := fun W hW i h1 => by
    rw [hln] at h1
    exact absurd h1 (Nat.not_lt_zero _)
  clear hP HGW HTM HOL hpl htl h0 te HT0
  go_loopw [17] (fun i wr => ∃ (k : Nat), k ≤ 0 ∧ i = .int .i64 k ∧ (∀ j, (h : j < tl.length) → j < k → fitT tl[j] = true) ∧ Below w2.heap.size w2 wr) (fun i _ => 0 - (intOf i).toNat)
  case atStart => exact ⟨0, Nat.zero_le _, rfl, fun j _ h => absurd h (Nat.not_lt_zero _), Below.refl _ _⟩
  case round =>
    obtain ⟨k, hk, rfl, hg, hB⟩ := hrel
    have HG := hide hg
    clear hg
    by_cases hlt : k < 0
    · exact absurd hlt (Nat.not_lt_zero _)
    · have HN : Hid (tl.all fitT = true) := by
        show tl.all fitT = true
        rw [List.all_eq_true]
        intro x hx
        obtain ⟨j, hj, rfl⟩ := List.getElem_of_mem hx
        exact unhide HG j hj (by omega)
      go_wp2
      go_ret
      exact ⟨ret_bool (by rw [unhide HRR, unhide HN]), bstep hB2 hB⟩
end Go.Proofs.Ytkedckmpjedjoaa
