/- The walks of markSubBindS, heldSubBindS. -/
import Derived.Test.YtcimlcmhodpalaaQSB3
namespace Go.Proofs.Ytcimlcmhodpalaa
open Go.RowKit
set_option linter.unusedVariables false
set_option linter.unusedSimpArgs false

/-- What markSubBindS writes, from the mark k on. -/
def marksB : List B → Nat → List B
  | [], _ => []
  | x :: s, k => ⟨k, marksC x.t.length (k + 1)⟩ :: marksB s (k + 1 + 3 * x.t.length)
/-- The mark behind all. -/
def endM (s : List B) (k : Nat) : Nat := k + s.length + 3 * tot s

theorem marksB_length : ∀ (s : List B) (k : Nat), (marksB s k).length = s.length
  | [], _ => rfl
  | x :: s, k => by simp [marksB, marksB_length s]
theorem endM_cons (x : B) (s : List B) (k : Nat) : endM (x :: s) k = endM s (k + 1 + 3 * x.t.length) := by simp [endM, tot]; omega
theorem marksB_snoc : ∀ (s : List B) (x : B) (k : Nat), marksB (s ++ [x]) k = marksB s k ++ [⟨(endM s k : Nat), marksC x.t.length (endM s k + 1)⟩]
  | [], x, k => by simp [marksB, endM, tot]
  | y :: s, x, k => by
      rw [List.cons_append]
      simp only [marksB, List.cons_append]
      rw [marksB_snoc s x _, endM_cons]
theorem endM_snoc (s : List B) (x : B) (k : Nat) : endM (s ++ [x]) k = endM s k + 1 + 3 * x.t.length := by simp [endM, tot_append, tot]; omega
theorem marksB_tot : ∀ (s : List B) (k : Nat), tot (marksB s k) = tot s
  | [], _ => rfl
  | x :: s, k => by simp [marksB, tot, marksC_length, marksB_tot s]
theorem marksB_get : ∀ (s : List B) (k i : Nat) (h : i < s.length) (h' : i < (marksB s k).length), (marksB s k)[i] = ⟨(endM (s.take i) k : Nat), marksC s[i].t.length (endM (s.take i) k + 1)⟩
  | x :: s, k, 0, h, h' => by simp [marksB, endM, tot]
  | x :: s, k, i + 1, h, h' => by
      simp only [marksB, List.getElem_cons_succ, List.take_succ_cons]
      rw [marksB_get s _ i (by simpa using h), endM_cons]

theorem rows_apart' {w : World} {b1 e1 s1 n1 b2 e2 s2 n2 : Nat} {v1 v2 : Value} {xs ys : List Value} (h1 : w.ownsRow b1 e1 s1 v1 n1 xs) (h2 : w.ownsRow b2 e2 s2 v2 n2 ys) (he : e1 ≠ e2) : v1 = .slice none 0 0 ∨ v1.ownBlock ≠ v2.ownBlock := by
  rcases h1.2 with ⟨rfl, _⟩ | ⟨g, cap, cur, rfl, _, hgb, _⟩
  · exact .inl rfl
  · refine .inr fun e => ?_
    rcases h2.2 with ⟨rfl, _⟩ | ⟨g', cap', cur', rfl, _, hgb', _⟩
    · simp [Value.ownBlock] at e
    · obtain rfl : g = g' := by simpa [Value.ownBlock] using e
      rw [hgb] at hgb'
      simp at hgb'
      exact he hgb'.2

theorem filterMap_one {us : List Value} (hn : (us.filterMap Value.ownBlock).Nodup) : ∀ {i j : Nat} (hi : i < us.length) (hj : j < us.length), us[i].ownBlock = us[j].ownBlock → us[i].ownBlock ≠ none → i = j := by
  induction us with
  | nil => intro i j hi; simp at hi
  | cons u us ih =>
    intro i j hi hj he hne
    have hn' : (us.filterMap Value.ownBlock).Nodup := by
      rw [List.filterMap_cons] at hn
      cases hu : u.ownBlock with
      | none => rw [hu] at hn; exact hn
      | some k => rw [hu] at hn; exact (List.nodup_cons.1 hn).2
    have hx : ∀ k, u.ownBlock = some k → k ∉ us.filterMap Value.ownBlock := fun k hu => by
      rw [List.filterMap_cons, hu] at hn; exact (List.nodup_cons.1 hn).1
    cases i with
    | zero =>
      cases j with
      | zero => rfl
      | succ j =>
        simp only [List.getElem_cons_zero, List.getElem_cons_succ] at he hne
        cases hu : u.ownBlock with
        | none => exact absurd hu hne
        | some k => exact absurd (List.mem_filterMap.2 ⟨_, List.getElem_mem (by simpa using hj), by rw [← he]; exact hu⟩) (hx k hu)
    | succ i =>
      cases j with
      | zero =>
        simp only [List.getElem_cons_zero, List.getElem_cons_succ] at he hne
        cases hu : u.ownBlock with
        | none => rw [he] at hne; exact absurd hu hne
        | some k => exact absurd (List.mem_filterMap.2 ⟨_, List.getElem_mem (by simpa using hi), by rw [he]; exact hu⟩) (hx k hu)
      | succ j =>
        simp only [List.getElem_cons_succ] at he hne
        rw [ih hn' (by simpa using hi) (by simpa using hj) he hne]

/-- A number of bindings is written. -/
theorem OwnB.set_var {w : World} {lo hi g cap : Nat} {s : List B} (h : OwnB w lo hi (.slice (some ⟨g, 0, none⟩) s.length cap) s) {i : Nat} (hi' : i < s.length) (z : Int) :
    (∃ a, w.cell? ⟨g, i * 2, none⟩ = some a) ∧ w.frozen? ⟨g, i * 2, none⟩ = false ∧ OwnB (w.setCell ⟨g, i * 2, none⟩ (.int .i64 z)) lo hi (.slice (some ⟨g, 0, none⟩) (s.set i ⟨z, s[i].t⟩).length cap) (s.set i ⟨z, s[i].t⟩) ∧ Btw lo hi w (w.setCell ⟨g, i * 2, none⟩ (.int .i64 z)) := by
  obtain ⟨us, h1, h2, h3, h4, h5, h6⟩ := h
  have hl := h2.1
  have hg := (h2.lt g rfl).1
  have hg2 := h6 g rfl
  have s1 := h2.stored (i * 2) (.int .i64 z)
  refine ⟨⟨_, (h2.cellAt (i * 2) (by omega)).trans (List.getElem?_eq_getElem (by omega))⟩, h2.frozenAt _, ⟨us, by simp [h1], ?_, fun j hj hj' => ?_, h4, h5, h6⟩, Btw.of_grown s1.2 (fun k e => by cases e; exact ⟨hg, hg2⟩)⟩
  · rw [← flatB_set_var s us h1 i z hi', List.length_set]
    exact s1.1
  · have ho := h3 j (by simpa using hj) hj'
    have : (s.set i ⟨z, s[i].t⟩)[j].t = (s[j]'(by simpa using hj)).t := by
      rw [List.getElem_set]
      split
      · rename_i e; subst e; rfl
      · rfl
    rw [this]
    refine World.ownsRow.kept ho s1.2 ?_
    rcases rows_apart' ho h2 (by decide) with e | e
    · exact .inl (by rw [e]; rfl)
    · exact .inr e

/-- A term of bindings is written. -/
theorem OwnB.set_term {w w' : World} {lo hi g cap : Nat} {s : List B} {i : Nat} {t : List C} {ao : Option Addr} {cp : Nat} (h : OwnB w lo hi (.slice (some ⟨g, 0, none⟩) s.length cap) s) (hi' : i < s.length) (ht : t.length = s[i].t.length)
    (hc : w.cell? ⟨g, i * 2 + 1, none⟩ = some (.slice ao s[i].t.length cp)) :
    OwnC w lo (.slice ao s[i].t.length cp) s[i].t ∧ ∀ {w' : World}, (OwnC w' lo (.slice ao s[i].t.length cp) t → w.grownBy w' (Value.slice ao s[i].t.length cp).ownBlock →
      OwnB w' lo hi (.slice (some ⟨g, 0, none⟩) (s.set i ⟨s[i].v, t⟩).length cap) (s.set i ⟨s[i].v, t⟩) ∧ Btw lo hi w w') := by
  obtain ⟨us, h1, h2, h3, h4, h5, h6⟩ := h
  have hl := h2.1
  have hiu : i < us.length := by omega
  have f := flatB_get s us h1 i hi' hiu
  have hu : us[i] = .slice ao s[i].t.length cp := by
    have := h2.cellAt (i * 2 + 1) (by omega)
    rw [this, f.2] at hc
    simpa using hc
  have hoi := h3 i hi' hiu
  rw [hu] at hoi
  refine ⟨hoi, fun {w'} ho hg => ?_⟩
  have hb5 := h5 us[i] (List.getElem_mem hiu)
  rw [hu] at hb5
  have hlo : ∀ k, (Value.slice ao s[i].t.length cp).ownBlock = some k → lo ≤ k := fun k e => (hoi.lt k e).1
  refine ⟨⟨us, by simp [h1], ?_, fun j hj hj' => ?_, h4, h5, h6⟩, Btw.of_grown hg (fun k e => ⟨hlo k e, hb5 k e⟩)⟩
  · rw [flatB_set_term, List.length_set]
    refine World.ownsRow.kept h2 hg ?_
    rcases rows_apart' h2 hoi (by decide) with e | e
    · cases e
    · exact .inr e
  · by_cases e : j = i
    · subst e
      rw [List.getElem_set_self, hu]
      exact ho
    · have hjs : j < s.length := by simpa using hj
      rw [List.getElem_set_ne (fun h => e h.symm)]
      refine World.ownsRow.kept (h3 j hjs hj') hg ?_
      cases hub : us[j].ownBlock with
      | none => exact .inl rfl
      | some k =>
        refine .inr fun e' => e ?_
        rw [← hu] at e'
        exact filterMap_one h4 hj' hiu (hub.trans e') (by rw [hub]; simp)
end Go.Proofs.Ytcimlcmhodpalaa
