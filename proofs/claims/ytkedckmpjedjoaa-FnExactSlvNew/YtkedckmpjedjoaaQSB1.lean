/- Bindings in memory: a slice of structs, each a number and a slice of places. -/
import Derived.Test.YtkedckmpjedjoaaQGI7PB1
import Derived.Test.YtkedckmpjedjoaaQW1Mem2Mem3W9
import Derived.Test.YtkedckmpjedjoaaQW10W13
import Derived.Test.YtkedckmpjedjoaaQPlainMemOpen
namespace Go.Proofs.Ytkedckmpjedjoaa
open Go.RowKit
set_option linter.unusedVariables false
set_option linter.unusedSimpArgs false

/-- From cell 'off' of block b on lie bindings, two cells each. -/
def AtB (w : World) (b off : Nat) (s : List B) : Prop :=
  ∀ i, (h : i < s.length) → w.cell? ⟨b, off + i * 2, none⟩ = some (.int .i64 s[i].v) ∧ ∃ ao cap, w.cell? ⟨b, off + i * 2 + 1, none⟩ = some (.slice ao s[i].t.length cap) ∧ s[i].t.length ≤ cap ∧ cap ≤ maxLen ∧ Row w ao s[i].t

def RowB (w : World) (ao : Option Addr) (s : List B) : Prop := s = [] ∨ ∃ b off, ao = some ⟨b, off, none⟩ ∧ AtB w b off s

/-- All that bindings hold fits. -/
def FitB (s : List B) : Prop := ∀ x ∈ s, Fit x.t ∧ WfC x.t ∧ (Lit.int .i64 x.v).wf = true

theorem AtB.below {w w' : World} {b off : Nat} {s : List B} (h : AtB w b off s) (hb : Below w.heap.size w w') : AtB w' b off s := fun i hi => by
  obtain ⟨h1, ao, cap, h2, h3, h4, h5⟩ := h i hi
  exact ⟨(hb.cell (p := ⟨b, _, none⟩) (World.block_lt_of_cell? w _ h1)).trans h1, ao, cap, (hb.cell (p := ⟨b, _, none⟩) (World.block_lt_of_cell? w _ h2)).trans h2, h3, h4, h5.below hb⟩
theorem RowB.below {w w' : World} {ao : Option Addr} {s : List B} (h : RowB w ao s) (hb : Below w.heap.size w w') : RowB w' ao s := by
  rcases h with h | ⟨b, off, e, h⟩
  · exact .inl h
  · exact .inr ⟨b, off, e, h.below hb⟩

/-- How many places bindings hold together. -/
def tot : List B → Nat
  | [] => 0
  | x :: s => x.t.length + tot s
theorem tot_append (s r : List B) : tot (s ++ r) = tot s + tot r := by
  induction s with
  | nil => simp [tot]
  | cons x s ih => simp [tot, ih]; omega
theorem tot_take_succ {s : List B} {k : Nat} (h : k < s.length) : tot (s.take (k + 1)) = tot (s.take k) + s[k].t.length := by
  rw [List.take_succ_eq_append_getElem h, tot_append]; simp [tot]
theorem tot_mem {s : List B} {x : B} (h : x ∈ s) : x.t.length ≤ tot s := by
  induction s with
  | nil => simp at h
  | cons y s ih =>
    rcases List.mem_cons.1 h with rfl | h
    · simp [tot]
    · have := ih h; simp [tot]; omega
theorem tot_take_le (s : List B) (k : Nat) : tot (s.take k) ≤ tot s := by
  conv => rhs; rw [← List.take_append_drop k s, tot_append]
  omega

def flatB : List B → List Value → List Value
  | x :: s, u :: us => .int .i64 x.v :: u :: flatB s us
  | _, _ => []

theorem flatB_length : ∀ (s : List B) (us : List Value), us.length = s.length → (flatB s us).length = s.length * 2
  | [], us, h => by cases us <;> rfl
  | x :: s, [], h => by simp at h
  | x :: s, u :: us, h => by have := flatB_length s us (by simpa using h); simp [flatB, this]; omega

theorem flatB_get : ∀ (s : List B) (us : List Value), us.length = s.length → ∀ (i : Nat) (h : i < s.length) (h' : i < us.length), (flatB s us)[i * 2]? = some (.int .i64 s[i].v) ∧ (flatB s us)[i * 2 + 1]? = some us[i]
  | x :: s, u :: us, hl, 0, h, h' => ⟨rfl, rfl⟩
  | x :: s, u :: us, hl, i + 1, h, h' => by
      have := flatB_get s us (by simpa using hl) i (by simpa using h) (by simpa using h')
      rw [show (i + 1) * 2 = i * 2 + 2 by omega]
      simpa [flatB] using this

theorem flatB_append : ∀ (s r : List B) (us vs : List Value), us.length = s.length → flatB (s ++ r) (us ++ vs) = flatB s us ++ flatB r vs
  | [], r, us, vs, h => by cases us with | nil => simp [flatB] | cons _ _ => simp at h
  | x :: s, r, [], vs, h => by simp at h
  | x :: s, r, u :: us, vs, h => by simp [flatB, flatB_append s r us vs (by simpa using h)]

theorem flatB_set_var : ∀ (s : List B) (us : List Value), us.length = s.length → ∀ (i : Nat) (z : Int) (h : i < s.length), (flatB s us).set (i * 2) (.int .i64 z) = flatB (s.set i ⟨z, s[i].t⟩) us
  | x :: s, u :: us, hl, 0, z, h => by simp [flatB]
  | x :: s, u :: us, hl, i + 1, z, h => by
      have := flatB_set_var s us (by simpa using hl) i z (by simpa using h)
      rw [show (i + 1) * 2 = i * 2 + 1 + 1 by omega]
      simp [flatB, this]

theorem flatB_set_term : ∀ (s : List B) (us : List Value) (i : Nat) (t : List C) (h : i < s.length), flatB (s.set i ⟨s[i].v, t⟩) us = flatB s us
  | [], us, i, t, h => by simp at h
  | x :: s, [], i, t, h => by cases i <;> rfl
  | x :: s, u :: us, 0, t, h => rfl
  | x :: s, u :: us, i + 1, t, h => by
      have := flatB_set_term s us i t (by simpa using h)
      simp [flatB, this]

/-- What is owned hangs on its own block alone. -/
theorem own_block {w w' : World} {base e size n : Nat} {v : Value} {xs : List Value} (h : w.ownsRow base e size v n xs) (hb : ∀ k, v.ownBlock = some k → w'.heap[k]? = w.heap[k]?) : w'.ownsRow base e size v n xs := by
  refine ⟨h.1, ?_⟩
  rcases h.2 with h2 | ⟨g, cap, cur, rfl, hg, hh, r⟩
  · exact .inl h2
  · exact .inr ⟨g, cap, cur, rfl, hg, (hb g rfl).trans hh, r⟩

theorem own_lo {w : World} {base base' e size n : Nat} {v : Value} {xs : List Value} (h : w.ownsRow base e size v n xs) (hb : ∀ k, v.ownBlock = some k → base' ≤ k) : w.ownsRow base' e size v n xs := by
  refine ⟨h.1, ?_⟩
  rcases h.2 with h2 | ⟨g, cap, cur, rfl, hg, r⟩
  · exact .inl h2
  · exact .inr ⟨g, cap, cur, rfl, hb g rfl, r⟩

/-- A slice value owns bindings, all in blocks from lo to hi, each term in a block of its own. -/
def OwnB (w : World) (lo hi : Nat) (v : Value) (s : List B) : Prop :=
  ∃ us : List Value, us.length = s.length ∧ w.ownsRow lo 172 2 v s.length (flatB s us) ∧ (∀ i, (h : i < s.length) → (h' : i < us.length) → OwnC w lo us[i] s[i].t) ∧ (us.filterMap Value.ownBlock).Nodup ∧
    (∀ u ∈ us, ∀ k, u.ownBlock = some k → k < hi) ∧ ∀ k, v.ownBlock = some k → k < hi

/-- Only blocks from lo to hi may have turned. -/
structure Btw (lo hi : Nat) (w w' : World) : Prop where
  os : w'.os = w.os
  tape : w'.tape = w.tape
  output : w'.output = w.output
  size : w.heap.size ≤ w'.heap.size
  block : ∀ k, k < w.heap.size → (k < lo ∨ hi ≤ k) → w'.heap[k]? = w.heap[k]?

theorem Btw.refl (lo hi : Nat) (w : World) : Btw lo hi w w := ⟨rfl, rfl, rfl, Nat.le_refl _, fun _ _ _ => rfl⟩
theorem Btw.trans {lo hi : Nat} {a b c : World} (h : Btw lo hi a b) (k : Btw lo hi b c) : Btw lo hi a c :=
  ⟨k.os.trans h.os, k.tape.trans h.tape, k.output.trans h.output, Nat.le_trans h.size k.size, fun i hi' hr => (k.block i (Nat.lt_of_lt_of_le hi' h.size) hr).trans (h.block i hi' hr)⟩
theorem Btw.of_below {lo hi : Nat} {a b : World} (h : Below a.heap.size a b) : Btw lo hi a b := ⟨h.os, h.tape, h.output, h.size, fun i hi' _ => h.block i hi'⟩
theorem Btw.of_grown {lo hi : Nat} {a b : World} {row : Option Nat} (h : a.grownBy b row) (hr : ∀ k, row = some k → lo ≤ k ∧ k < hi) : Btw lo hi a b :=
  ⟨h.os, h.tape, h.output, h.size, fun i hi' hb => h.block i hi' (fun e => by have := hr i e.symm; omega)⟩
theorem Btw.below {lo hi : Nat} {a w w' : World} (h : Below a.heap.size a w) (k : Btw lo hi w w') (hl : a.heap.size ≤ lo) : Below a.heap.size a w' :=
  ⟨k.os.trans h.os, k.tape.trans h.tape, k.output.trans h.output, Nat.le_trans h.size k.size, fun i hi' => (k.block i (Nat.lt_of_lt_of_le hi' h.size) (.inl (by omega))).trans (h.block i hi')⟩

theorem OwnB.kept {w w' : World} {lo hi : Nat} {v : Value} {s : List B} (h : OwnB w lo hi v s) (hb : ∀ k, lo ≤ k → k < hi → w'.heap[k]? = w.heap[k]?) : OwnB w' lo hi v s := by
  obtain ⟨us, h1, h2, h3, h4, h5, h6⟩ := h
  refine ⟨us, h1, own_block h2 (fun k e => hb k (h2.lt k e).1 (h6 k e)), fun i hi' hi'' => ?_, h4, h5, h6⟩
  exact own_block (h3 i hi' hi'') (fun k e => hb k ((h3 i hi' hi'').lt k e).1 (h5 _ (List.getElem_mem hi'') k e))

theorem OwnB.hi_le {w : World} {lo hi hi' : Nat} {v : Value} {s : List B} (h : OwnB w lo hi v s) (hh : hi ≤ hi') : OwnB w lo hi' v s := by
  obtain ⟨us, h1, h2, h3, h4, h5, h6⟩ := h
  exact ⟨us, h1, h2, h3, h4, fun u hu k e => Nat.lt_of_lt_of_le (h5 u hu k e) hh, fun k e => Nat.lt_of_lt_of_le (h6 k e) hh⟩

theorem OwnB.lo_le {w : World} {lo lo' hi : Nat} {v : Value} {s : List B} (h : OwnB w lo hi v s) (hl : lo' ≤ lo) : OwnB w lo' hi v s := by
  obtain ⟨us, h1, h2, h3, h4, h5, h6⟩ := h
  exact ⟨us, h1, own_lo h2 (fun k e => Nat.le_trans hl (h2.lt k e).1), fun i hi' hi'' => own_lo (h3 i hi' hi'') (fun k e => Nat.le_trans hl ((h3 i hi' hi'').lt k e).1), h4, h5, h6⟩

theorem OwnB.below {w w' : World} {lo hi : Nat} {v : Value} {s : List B} (h : OwnB w lo hi v s) (hh : hi ≤ w.heap.size) (hb : Below w.heap.size w w') : OwnB w' lo hi v s :=
  h.kept (fun k _ hk => hb.block k (by omega))

theorem OwnB.shape {w : World} {lo hi : Nat} {v : Value} {s : List B} (h : OwnB w lo hi v s) : ∃ ao cap, v = .slice ao s.length cap ∧ s.length ≤ cap ∧ cap ≤ maxLen ∧ RowB w ao s := by
  obtain ⟨us, h1, h2, h3, h4, h5, h6⟩ := h
  have h2' := h2
  rcases h2.2 with ⟨e, hn⟩ | ⟨g, cap, cur, e, hg, hh, hc, hm, _⟩
  · have hs : s = [] := List.length_eq_zero_iff.1 hn
    subst hs
    exact ⟨none, 0, e, Nat.le_refl _, Nat.zero_le _, .inl rfl⟩
  · subst e
    refine ⟨_, _, rfl, hc, hm, .inr ⟨g, 0, rfl, fun i hi' => ?_⟩⟩
    have hi'' : i < us.length := by omega
    have f := flatB_get s us h1 i hi' hi''
    have e0 := h2'.cellAt (i * 2) (by omega)
    have e1 := h2'.cellAt (i * 2 + 1) (by omega)
    have ho := h3 i hi' hi''
    rw [Nat.zero_add]
    rcases ho.2 with ⟨eu, hn⟩ | ⟨gu, cu, _, eu, _, hgb, q1, q2, _⟩
    · have ht : s[i].t = [] := List.length_eq_zero_iff.1 hn
      refine ⟨e0.trans f.1, none, 0, ?_, by rw [ht]; simp, by simp, .inl ht⟩
      rw [e1, f.2, eu, ht]; rfl
    · refine ⟨e0.trans f.1, some ⟨gu, 0, none⟩, cu, by rw [e1, f.2, eu], q1, q2, ?_⟩
      rw [eu] at ho
      exact .inr ⟨gu, 0, rfl, owns_at ho rfl⟩

theorem OwnB.row {w : World} {lo hi n cap : Nat} {ao : Option Addr} {s : List B} (h : OwnB w lo hi (.slice ao n cap) s) : RowB w ao s := by
  obtain ⟨ao', cap', e, _, _, hR⟩ := h.shape
  simp only [Value.slice.injEq] at e
  obtain ⟨rfl, _, _⟩ := e
  exact hR
end Go.Proofs.Ytkedckmpjedjoaa
