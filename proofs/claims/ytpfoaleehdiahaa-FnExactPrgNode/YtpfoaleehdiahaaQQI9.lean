/- programOf of the program: what decides; addClause of nil, and of one too many. -/
import Derived.Test.YtpfoaleehdiahaaQQI8
namespace Go.Proofs.Ytpfoaleehdiahaa
open Go.RowKit Go.Shelf
set_option linter.unusedVariables false
set_option linter.unusedSimpArgs false
attribute [-go_sem] Go.Builtin.append_

theorem nodeP_take {ps : List Pc} {s : ByteArray} {n : Int} : ∀ (k : Nat), (∀ j, (h : j < ps.length) → j < k → ps[j].d ≠ 0) → (nodeP (ps.take k) s n = 0 ↔ ∀ j, (h : j < ps.length) → j < k → ¬ (ps[j].s = s ∧ ps[j].n = n)) := by
  induction ps with
  | nil => intro k _; simp [nodeP]
  | cons y r ih =>
    intro k hd
    cases k with
    | zero => simp [nodeP]
    | succ k =>
      have ih' := ih k (fun j h hj => hd (j + 1) (by simpa using h) (by omega))
      rw [List.take_succ_cons, nodeP]
      by_cases e : y.s = s ∧ y.n = n
      · rw [if_pos e]
        constructor
        · intro h0; exact absurd h0 (hd 0 (by simp) (by omega))
        · intro hh; exact absurd e (hh 0 (by simp) (by omega))
      · rw [if_neg e, ih']
        constructor
        · intro hh j h hj
          cases j with
          | zero => exact e
          | succ j => exact hh j (by simpa using h) (by omega)
        · intro hh j h hj
          exact hh (j + 1) (by simpa using h) (by omega)
theorem okC_three (n : Int) (s : ByteArray) : okC ⟨3, n, s⟩ = (nameB s && decide (0 ≤ n ∧ n ≤ 3)) := by
  unfold okC
  simp only [show ¬ ((3 : Int) = 1) by decide, show ¬ ((3 : Int) = 2) by decide, if_false, if_true]
  by_cases h : 0 ≤ n ∧ n ≤ 3 <;> simp [h] <;> cases nameB s <;> simp <;> omega
theorem pcUp_d {ps : List Pc} {k : Nat} (h : PcUp ps k) : ∀ j, (hj : j < ps.length) → j < k → ps[j].d ≠ 0 := fun j hj hjk e => by
  have := (h j hj hjk).1
  unfold pcB at this
  simp only [Bool.and_eq_true, decide_eq_true_eq] at this
  omega
theorem okPl_yes {ps : List Pc} {k : Nat} (hu : PcUp ps k) (hk : k < ps.length) (h : okPl (ps.take k) ps[k] = true) : PcAt ps k ps[k] ∧ k ≠ 6 := by
  unfold okPl at h
  simp only [Bool.and_eq_true, decide_eq_true_eq, okC_three] at h
  obtain ⟨⟨⟨⟨h1, h2⟩, h3⟩, h4⟩, h5⟩ := h
  refine ⟨⟨?_, fun j hj hjk => ?_⟩, fun e => h4 (by rw [List.length_take]; omega)⟩
  · unfold pcB; simp [h1, h2]; omega
  · exact (nodeP_take k (pcUp_d hu)).1 h5 j hj hjk
theorem okPl_no {ps : List Pc} {k : Nat} (hu : PcUp ps k) (hk : k < ps.length) (h : okPl (ps.take k) ps[k] = false) : ¬ PcAt ps k ps[k] ∨ k = 6 := by
  by_cases h6 : k = 6
  · exact .inr h6
  · refine .inl (fun hp => ?_)
    have hd := hp.1
    unfold pcB at hd
    simp only [Bool.and_eq_true, decide_eq_true_eq] at hd
    have hn := (nodeP_take (s := ps[k].s) (n := ps[k].n) k (pcUp_d hu)).2 (fun j hj hjk => hp.2 j hj hjk)
    have : okPl (ps.take k) ps[k] = true := by
      unfold okPl
      simp only [okC_three, Bool.and_eq_true, decide_eq_true_eq]
      exact ⟨⟨⟨⟨hd.1.1, hd.1.2⟩, by omega⟩, by rw [List.length_take]; omega⟩, hn⟩
    rw [h] at this
    cases this

set_option maxRecDepth 100000 in
set_option maxHeartbeats 1000000 in
theorem addClause_nil (P : Nat) (wr : World) : Calls Try.prog 102 #[.pointer (some ⟨P, 0, none⟩), .pointer none] wr fun e w' => e = .returned (.bool false) ∧ w' = wr := by
  go_enter Try.func102, Try.ntmps102
  go_wp2
  go_ret
  exact ⟨rfl, rfl⟩
set_option maxRecDepth 100000 in
set_option maxHeartbeats 1000000 in
theorem addClause_full (w : World) (P q : Nat) (ps : List Pc) (wr : World) (vc vp : Value) (h : PrM w P 12 ps wr vc vp) :
    Calls Try.prog 102 #[.pointer (some ⟨P, 0, none⟩), .pointer (some ⟨q, 0, none⟩)] wr fun e w' => e = .returned (.bool false) ∧ w' = wr := by
  obtain ⟨xs, hx⟩ := h.oc
  obtain ⟨c0, c1, f0, f1⟩ := program_cells h.hp
  have hsh : ∃ ao cap, vc = .slice ao 12 cap := by
    rcases hx.2 with ⟨e, hn⟩ | ⟨g, cap, cur, e, _⟩
    · exact absurd hn (by omega)
    · exact ⟨_, _, e⟩
  obtain ⟨ao, cap, rfl⟩ := hsh
  clear h hx
  go_enter Try.func102, Try.ntmps102
  go_wp2
  go_ret
  exact ⟨rfl, rfl⟩
end Go.Proofs.Ytpfoaleehdiahaa
