/- Bindings in memory: a slice of structs, each a number and a slice of places. -/
import Derived.Test.YthelpghiafbejaaDoorQPB1
import Derived.Test.YthelpghiafbejaaDoorQMem2Mem3W9
import Derived.Test.YthelpghiafbejaaDoorQW10W13
import Derived.Test.YthelpghiafbejaaDoorQMemOpenOpen2
namespace Go.Proofs.YthelpghiafbejaaDoor
open Go.RowKit
set_option linter.unusedVariables false
set_option linter.unusedSimpArgs false

/-- From cell 'off' of block b on lie bindings, two cells each. -/
def AtB (w : World) (b off : Nat) (s : List B) : Prop :=
  ∀ i, (h : i < s.length) → w.cell? ⟨b, off + i * 2, none⟩ = some (.int .i64 s[i].v) ∧ ∃ ao cap, w.cell? ⟨b, off + i * 2 + 1, none⟩ = some (.slice ao s[i].t.length cap) ∧ s[i].t.length ≤ cap ∧ cap ≤ maxLen ∧ Row w ao s[i].t

def RowB (w : World) (ao : Option Addr) (s : List B) : Prop := s = [] ∨ ∃ b off, ao = some ⟨b, off, none⟩ ∧ AtB w b off s

/-- All that bindings hold fits. -/
def FitB (s : List B) : Prop := ∀ x ∈ s, Fit x.t ∧ WfC x.t ∧ (Lit.int .i64 x.v).wf = true

theorem AtB.below {w w' : World} {b off : Nat} {s : List B} (h : AtB w b off s) (hb : Below w.heap.size w w') : AtB w' b off s := fun i hi => by
  obtain ⟨h1, ao, cap, h2, h3, h4, h5⟩ := h i hi
  exact ⟨(hb.cell (p := ⟨b, _, none⟩) (World.block_lt_of_cell? w _ h1)).trans h1, ao, cap, (hb.cell (p := ⟨b, _, none⟩) (World.block_lt_of_cell? w _ h2)).trans h2, h3, h4, h5.below hb⟩
theorem RowB.below {w w' : World} {ao : Option Addr} {s : List B} (h : RowB w ao s) (hb : Below w.heap.size w w') : RowB w' ao s := by
  rcases h with h | ⟨b, off, e, h⟩
  · exact .inl h
  · exact .inr ⟨b, off, e, h.below hb⟩

/-- How many places bindings hold together. -/
def tot : List B → Nat
  | [] => 0
  | x :: s => x.t.length + tot s
theorem tot_append (s r : List B) : tot (s ++ r) = tot s + tot r := by
  induction s with
  | nil => simp [tot]
  | cons x s ih => simp [tot, ih]; omega
theorem tot_take_succ {s : List B} {k : Nat} (h : k < s.length) : tot (s.take (k + 1)) = tot (s.take k) + s[k].t.length := by
  rw [List.take_succ_eq_append_getElem h, tot_append]; simp [tot]
theorem tot_mem {s : List B} {x : B} (h : x ∈ s) : x.t.length ≤ tot s := by
  induction s with
  | nil => simp at h
  | cons y s ih =>
    rcases List.mem_cons.1 h with rfl | h
    · simp [tot]
    · have := ih h; simp [tot]; omega
theorem tot_take_le (s : List B) (k : Nat) : tot (s.take k) ≤ tot s := by
  conv => rhs; rw [← List.take_append_drop k s, tot_append]
  omega

def flatB : List B → List Value → List Value
  | x :: s, u :: us => .int .i64 x.v :: u :: flatB s us
  | _, _ => []

theorem flatB_length : ∀ (s : List B) (us : List Value), us.length = s.length → (flatB s us).length = s.length * 2
  | [], us, h => by cases us <;> rfl
  | x :: s, [], h => by simp at h
  | x :: s, u :: us, h => by have := flatB_length s us (by simpa using h); simp [flatB, this]; omega

theorem flatB_get : ∀ (s : List B) (us : List Value), us.length = s.length → ∀ (i : Nat) (h : i < s.length) (h' : i < us.length), (flatB s us)[i * 2]? = some (.int .i64 s[i].v) ∧ (flatB s us)[i * 2 + 1]? = some us[i]
  | x :: s, u :: us, hl, 0, h, h' => ⟨rfl, rfl⟩
  | x :: s, u :: us, hl, i + 1, h, h' => by
      have := flatB_get s us (by simpa using hl) i (by simpa using h) (by simpa using h')
      rw [show (i + 1) * 2 = i * 2 + 2 by omega]
      simpa [flatB] using this

theorem flatB_append : ∀ (s r : List B) (us vs : List Value), us.length = s.length → flatB (s ++ r) (us ++ vs) = flatB s us ++ flatB r vs
  | [], r, us, vs, h => by cases us with | nil => simp [flatB] | cons _ _ => simp at h
  | x :: s, r, [], vs, h => by simp at h
  | x :: s, r, u :: us, vs, h => by simp [flatB, flatB_append s r us vs (by simpa using h)]

theorem flatB_set_var : ∀ (s : List B) (us : List Value), us.length = s.length → ∀ (i : Nat) (z : Int) (h : i < s.length), (flatB s us).set (i * 2) (.int .i64 z) = flatB (s.set i ⟨z, s[i].t⟩) us
  | x :: s, u :: us, hl, 0, z, h => by simp [flatB]
  | x :: s, u :: us, hl, i + 1, z, h => by
      have := flatB_set_var s us (by simpa using hl) i z (by simpa using h)
      rw [show (i + 1) * 2 = i * 2 + 1 + 1 by omega]
      simp [flatB, this]

theorem flatB_set_term : ∀ (s : List B) (us : List Value) (i : Nat) (t : List C) (h : i < s.length), flatB (s.set i ⟨s[i].v, t⟩) us = flatB s us
  | [], us, i, t, h => by simp at h
  | x :: s, [], i, t, h => by cases i <;> rfl
  | x :: s, u :: us, 0, t, h => rfl
  | x :: s, u :: us, i + 1, t, h => by
      have := flatB_set_term s us i t (by simpa using h)
      simp [flatB, this]

/-- What is owned hangs on its own block alone. -/
theorem own_block {w w' : World} {base e size n : Nat} {v : Value} {xs : List Value} (h : w.ownsRow base e size v n xs) (hb : ∀ k, v.ownBlock = some k → w'.heap[k]? = w.heap[k]?) : w'.ownsRow base e size v n xs := by
  refine ⟨h.1, ?_⟩
  rcases h.2 with h2 | ⟨g, cap, cur, rfl, hg, hh, r⟩
  · exact .inl h2
  · exact .inr ⟨g, cap, cur, rfl, hg, (hb g rfl).trans hh, r⟩

theorem own_lo {w : World} {base base' e size n : Nat} {v : Value} {xs : List Value} (h : w.ownsRow base e size v n xs) (hb : ∀ k, v.ownBlock = some k → base' ≤ k) : w.ownsRow base' e size v n xs := by
  refine ⟨h.1, ?_⟩
  rcases h.2 with h2 | ⟨g, cap, cur, rfl, hg, r⟩
  · exact .inl h2
  · exact .inr ⟨g, cap, cur, rfl, hb g rfl, r⟩

/-- Only blocks from lo to hi may have turned. -/
structure Btw (lo hi : Nat) (w w' : World) : Prop where
  os : w'.os = w.os
  tape : w'.tape = w.tape
  output : w'.output = w.output
  size : w.heap.size ≤ w'.heap.size
  block : ∀ k, k < w.heap.size → (k < lo ∨ hi ≤ k) → w'.heap[k]? = w.heap[k]?

theorem Btw.refl (lo hi : Nat) (w : World) : Btw lo hi w w := ⟨rfl, rfl, rfl, Nat.le_refl _, fun _ _ _ => rfl⟩
theorem Btw.trans {lo hi : Nat} {a b c : World} (h : Btw lo hi a b) (k : Btw lo hi b c) : Btw lo hi a c :=
  ⟨k.os.trans h.os, k.tape.trans h.tape, k.output.trans h.output, Nat.le_trans h.size k.size, fun i hi' hr => (k.block i (Nat.lt_of_lt_of_le hi' h.size) hr).trans (h.block i hi' hr)⟩
theorem Btw.of_below {lo hi : Nat} {a b : World} (h : Below a.heap.size a b) : Btw lo hi a b := ⟨h.os, h.tape, h.output, h.size, fun i hi' _ => h.block i hi'⟩
theorem Btw.of_grown {lo hi : Nat} {a b : World} {row : Option Nat} (h : a.grownBy b row) (hr : ∀ k, row = some k → lo ≤ k ∧ k < hi) : Btw lo hi a b :=
  ⟨h.os, h.tape, h.output, h.size, fun i hi' hb => h.block i hi' (fun e => by have := hr i e.symm; omega)⟩
theorem Btw.below {lo hi : Nat} {a w w' : World} (h : Below a.heap.size a w) (k : Btw lo hi w w') (hl : a.heap.size ≤ lo) : Below a.heap.size a w' :=
  ⟨k.os.trans h.os, k.tape.trans h.tape, k.output.trans h.output, Nat.le_trans h.size k.size, fun i hi' => (k.block i (Nat.lt_of_lt_of_le hi' h.size) (.inl (by omega))).trans (h.block i hi')⟩

end Go.Proofs.YthelpghiafbejaaDoor
