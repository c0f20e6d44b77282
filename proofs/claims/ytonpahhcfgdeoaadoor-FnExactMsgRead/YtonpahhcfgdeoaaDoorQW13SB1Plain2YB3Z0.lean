import Derived.Test.YtonpahhcfgdeoaaDoorQW11W12
import Derived.Test.YtonpahhcfgdeoaaDoorQW5W10
import Derived.Test.YtonpahhcfgdeoaaDoorQW4Plain4PB1
import Derived.Test.YtonpahhcfgdeoaaDoorQPlainW1MemMem2Mem3W9
import Derived.Test.YtonpahhcfgdeoaaDoorQOpenOpen2YMYW1
import Derived.Test.YtonpahhcfgdeoaaDoorQYB1YB2W2W3
import Derived.Lib.AppendStr
import Derived.BigQuiet
import Derived.Deep.RegionWith
/- numberVars and TrmFree of whatever places; heldTrmCellS of whatever row; small laws on what is owned. -/
namespace Go.Proofs.YtonpahhcfgdeoaaDoor
open Go.RowKit Go.Maps
set_option linter.unusedVariables false
set_option linter.unusedSimpArgs false

theorem OwnI.row {w : World} {base n cap : Nat} {ao : Option Addr} {z : List Int} (h : OwnI w base (.slice ao n cap) z) : RowI w ao z := by
  obtain ⟨ao', cap', e, hR⟩ := h.shape
  simp only [Value.slice.injEq] at e
  obtain ⟨rfl, _, _⟩ := e
  exact hR
theorem OwnC.row {w : World} {base n cap : Nat} {ao : Option Addr} {t : List C} (h : OwnC w base (.slice ao n cap) t) : Row w ao t := by
  obtain ⟨ao', cap', e, hR⟩ := h.shape
  simp only [Value.slice.injEq] at e
  obtain ⟨rfl, _, _⟩ := e
  exact hR

set_option maxHeartbeats 1000000 in
theorem numberVars_none (ao : Option Addr) (cap : Nat) (w : World) :
    Calls Tryd.prog 72 #[.slice ao 0 cap] w fun e w' => ∃ v, e = .returned (.tuple #[v, .map (some w.heap.size)]) ∧ OwnI w' (w.heap.size + 1) v (freeOf []) ∧
      (∃ D n, n ≤ 0 ∧ w'.ownsMap Tryd.prog 3 (plainElem Tryd.prog 3) w.heap.size n D ∧ Tab (freeOf []) D) ∧ Below w.heap.size w w' := by
  have hmm := @run_makeMap Tryd.prog
  go_enter Tryd.func72, Tryd.ntmps72
  go_wp2
  refine wp_loop_rounds 1 ?_
  rw [rounds_succ]
  go_wp2
  go_ret2
  exact ⟨_, rfl, World.ownsRow_nil _ _ _ _, ⟨_, 0, Nat.le_refl _, World.ownsMap_made _ _ _ _, tab_nil⟩, cell_below _ _⟩

theorem numberVars_any (ao : Option Addr) (cap : Nat) (t : List C) (w : World) (hm : t.length ≤ 1048576) (hA : Row w ao t) (hw : WfC t) :
    Calls Tryd.prog 72 #[.slice ao t.length cap] w fun e w' => ∃ v, e = .returned (.tuple #[v, .map (some w.heap.size)]) ∧ OwnI w' (w.heap.size + 1) v (freeOf t) ∧
      (∃ D n, n ≤ t.length ∧ w'.ownsMap Tryd.prog 3 (plainElem Tryd.prog 3) w.heap.size n D ∧ Tab (freeOf t) D) ∧ Below w.heap.size w w' := by
  rcases hA with rfl | ⟨b, off, rfl, hA⟩
  · exact numberVars_none ao cap w
  · exact numberVars_some b off cap t w hm hA hw

theorem OwnI.base {w : World} {base base' : Nat} {v : Value} {z : List Int} (h : OwnI w base v z) (hb : base' ≤ base) : OwnI w base' v z := by
  refine ⟨h.1, ?_⟩
  rcases h.2 with h2 | ⟨g, cap, cur, e, hg, r⟩
  · exact .inl h2
  · exact .inr ⟨g, cap, cur, e, Nat.le_trans hb hg, r⟩

theorem heldTrmCellS_none (ao : Option Addr) (cap : Nat) (k : Int) (w : World) :
    Calls Tryd.prog 24 #[.slice ao 0 cap, .int .i64 k] w fun e w' => e = .returned (.int .i64 k) ∧ w' = w := by
  go_enter Tryd.func24, Tryd.ntmps24
  go_wp2
  refine wp_loop_rounds 1 ?_
  rw [rounds_succ]
  go_wp2
  go_ret
  exact ⟨rfl, rfl⟩

theorem heldTrmCellS_any (ao : Option Addr) (cap n k : Nat) (w : World) (hm : n ≤ 1048576) (hk1 : 1 ≤ k) (hk : k ≤ 4194304) (hA : Row w ao (marksC n k)) :
    Calls Tryd.prog 24 #[.slice ao n cap, .int .i64 k] w fun e w' => e = .returned (.int .i64 ((k + 3 * n : Nat) : Int)) ∧ Below w.heap.size w w' := by
  rcases hA with h | ⟨b, off, rfl, hA⟩
  · have hn : n = 0 := by have := congrArg List.length h; simpa [marksC_length] using this
    subst hn
    refine (heldTrmCellS_none ao cap k w).mono ?_
    rintro e w' ⟨rfl, rfl⟩
    exact ⟨ret_int (by simp), Below.refl _ _⟩
  · exact heldTrmCellS_some b off cap n k w hm hk1 hk hA

/-- A write into a row that was made since: what lay ahead is as it was. -/
theorem below_row {a w w' : World} {base e size n : Nat} {v : Value} {xs : List Value} (h : Below a.heap.size a w) (hg : w.grownBy w' v.ownBlock) (ho : w.ownsRow base e size v n xs) (hb : a.heap.size ≤ base) : Below a.heap.size a w' :=
  h.grown hg h.size (fun k e => Nat.le_trans hb (ho.lt k e).1)

/-! Marks from 1 on, as the laws set them. -/

theorem markTrmCellS_one (ao : Option Addr) (cap : Nat) (t : List C) (base : Nat) (w : World) (hm : t.length ≤ 1048576) (hA : OwnC w base (.slice ao t.length cap) t) :
    Calls Tryd.prog 22 #[.slice ao t.length cap, .int .i64 1] w fun e w' => e = .returned (.int .i64 (1 + 3 * (t.length : Int))) ∧
      OwnC w' base (.slice ao t.length cap) (marksC t.length 1) ∧ w.grownBy w' (Value.slice ao t.length cap).ownBlock := by
  have h := markTrmCellS_any ao cap t 1 base w hm (by omega) (by omega) hA
  rw [show (((1 + 3 * t.length : Nat) : Int)) = 1 + 3 * (t.length : Int) by omega] at h
  exact h
theorem heldTrmCellS_one (ao : Option Addr) (cap n : Nat) (w : World) (hm : n ≤ 1048576) (hA : Row w ao (marksC n 1)) :
    Calls Tryd.prog 24 #[.slice ao n cap, .int .i64 1] w fun e w' => e = .returned (.int .i64 (1 + 3 * (n : Int))) ∧ Below w.heap.size w w' := by
  have h := heldTrmCellS_any ao cap n 1 w hm (by omega) (by omega) hA
  rw [show (((1 + 3 * n : Nat) : Int)) = 1 + 3 * (n : Int) by omega] at h
  exact h
end Go.Proofs.YtonpahhcfgdeoaaDoor

/- Bindings in memory: a slice of structs, each a number and a slice of places. -/
namespace Go.Proofs.YtonpahhcfgdeoaaDoor
open Go.RowKit
set_option linter.unusedVariables false
set_option linter.unusedSimpArgs false

/-- From cell 'off' of block b on lie bindings, two cells each. -/
def AtB (w : World) (b off : Nat) (s : List B) : Prop :=
  ∀ i, (h : i < s.length) → w.cell? ⟨b, off + i * 2, none⟩ = some (.int .i64 s[i].v) ∧ ∃ ao cap, w.cell? ⟨b, off + i * 2 + 1, none⟩ = some (.slice ao s[i].t.length cap) ∧ s[i].t.length ≤ cap ∧ cap ≤ maxLen ∧ Row w ao s[i].t

def RowB (w : World) (ao : Option Addr) (s : List B) : Prop := s = [] ∨ ∃ b off, ao = some ⟨b, off, none⟩ ∧ AtB w b off s

/-- All that bindings hold fits. -/
def FitB (s : List B) : Prop := ∀ x ∈ s, Fit x.t ∧ WfC x.t ∧ (Lit.int .i64 x.v).wf = true

theorem AtB.below {w w' : World} {b off : Nat} {s : List B} (h : AtB w b off s) (hb : Below w.heap.size w w') : AtB w' b off s := fun i hi => by
  obtain ⟨h1, ao, cap, h2, h3, h4, h5⟩ := h i hi
  exact ⟨(hb.cell (p := ⟨b, _, none⟩) (World.block_lt_of_cell? w _ h1)).trans h1, ao, cap, (hb.cell (p := ⟨b, _, none⟩) (World.block_lt_of_cell? w _ h2)).trans h2, h3, h4, h5.below hb⟩
theorem RowB.below {w w' : World} {ao : Option Addr} {s : List B} (h : RowB w ao s) (hb : Below w.heap.size w w') : RowB w' ao s := by
  rcases h with h | ⟨b, off, e, h⟩
  · exact .inl h
  · exact .inr ⟨b, off, e, h.below hb⟩

/-- How many places bindings hold together. -/
def tot : List B → Nat
  | [] => 0
  | x :: s => x.t.length + tot s
theorem tot_append (s r : List B) : tot (s ++ r) = tot s + tot r := by
  induction s with
  | nil => simp [tot]
  | cons x s ih => simp [tot, ih]; omega
theorem tot_take_succ {s : List B} {k : Nat} (h : k < s.length) : tot (s.take (k + 1)) = tot (s.take k) + s[k].t.length := by
  rw [List.take_succ_eq_append_getElem h, tot_append]; simp [tot]
theorem tot_mem {s : List B} {x : B} (h : x ∈ s) : x.t.length ≤ tot s := by
  induction s with
  | nil => simp at h
  | cons y s ih =>
    rcases List.mem_cons.1 h with rfl | h
    · simp [tot]
    · have := ih h; simp [tot]; omega
theorem tot_take_le (s : List B) (k : Nat) : tot (s.take k) ≤ tot s := by
  conv => rhs; rw [← List.take_append_drop k s, tot_append]
  omega

def flatB : List B → List Value → List Value
  | x :: s, u :: us => .int .i64 x.v :: u :: flatB s us
  | _, _ => []

theorem flatB_length : ∀ (s : List B) (us : List Value), us.length = s.length → (flatB s us).length = s.length * 2
  | [], us, h => by cases us <;> rfl
  | x :: s, [], h => by simp at h
  | x :: s, u :: us, h => by have := flatB_length s us (by simpa using h); simp [flatB, this]; omega

theorem flatB_get : ∀ (s : List B) (us : List Value), us.length = s.length → ∀ (i : Nat) (h : i < s.length) (h' : i < us.length), (flatB s us)[i * 2]? = some (.int .i64 s[i].v) ∧ (flatB s us)[i * 2 + 1]? = some us[i]
  | x :: s, u :: us, hl, 0, h, h' => ⟨rfl, rfl⟩
  | x :: s, u :: us, hl, i + 1, h, h' => by
      have := flatB_get s us (by simpa using hl) i (by simpa using h) (by simpa using h')
      rw [show (i + 1) * 2 = i * 2 + 2 by omega]
      simpa [flatB] using this

theorem flatB_append : ∀ (s r : List B) (us vs : List Value), us.length = s.length → flatB (s ++ r) (us ++ vs) = flatB s us ++ flatB r vs
  | [], r, us, vs, h => by cases us with | nil => simp [flatB] | cons _ _ => simp at h
  | x :: s, r, [], vs, h => by simp at h
  | x :: s, r, u :: us, vs, h => by simp [flatB, flatB_append s r us vs (by simpa using h)]

theorem flatB_set_var : ∀ (s : List B) (us : List Value), us.length = s.length → ∀ (i : Nat) (z : Int) (h : i < s.length), (flatB s us).set (i * 2) (.int .i64 z) = flatB (s.set i ⟨z, s[i].t⟩) us
  | x :: s, u :: us, hl, 0, z, h => by simp [flatB]
  | x :: s, u :: us, hl, i + 1, z, h => by
      have := flatB_set_var s us (by simpa using hl) i z (by simpa using h)
      rw [show (i + 1) * 2 = i * 2 + 1 + 1 by omega]
      simp [flatB, this]

theorem flatB_set_term : ∀ (s : List B) (us : List Value) (i : Nat) (t : List C) (h : i < s.length), flatB (s.set i ⟨s[i].v, t⟩) us = flatB s us
  | [], us, i, t, h => by simp at h
  | x :: s, [], i, t, h => by cases i <;> rfl
  | x :: s, u :: us, 0, t, h => rfl
  | x :: s, u :: us, i + 1, t, h => by
      have := flatB_set_term s us i t (by simpa using h)
      simp [flatB, this]

/-- What is owned hangs on its own block alone. -/
theorem own_block {w w' : World} {base e size n : Nat} {v : Value} {xs : List Value} (h : w.ownsRow base e size v n xs) (hb : ∀ k, v.ownBlock = some k → w'.heap[k]? = w.heap[k]?) : w'.ownsRow base e size v n xs := by
  refine ⟨h.1, ?_⟩
  rcases h.2 with h2 | ⟨g, cap, cur, rfl, hg, hh, r⟩
  · exact .inl h2
  · exact .inr ⟨g, cap, cur, rfl, hg, (hb g rfl).trans hh, r⟩

theorem own_lo {w : World} {base base' e size n : Nat} {v : Value} {xs : List Value} (h : w.ownsRow base e size v n xs) (hb : ∀ k, v.ownBlock = some k → base' ≤ k) : w.ownsRow base' e size v n xs := by
  refine ⟨h.1, ?_⟩
  rcases h.2 with h2 | ⟨g, cap, cur, rfl, hg, r⟩
  · exact .inl h2
  · exact .inr ⟨g, cap, cur, rfl, hb g rfl, r⟩

/-- A slice value owns bindings, all in blocks from lo to hi, each term in a block of its own. -/
def OwnB (w : World) (lo hi : Nat) (v : Value) (s : List B) : Prop :=
  ∃ us : List Value, us.length = s.length ∧ w.ownsRow lo 110 2 v s.length (flatB s us) ∧ (∀ i, (h : i < s.length) → (h' : i < us.length) → OwnC w lo us[i] s[i].t) ∧ (us.filterMap Value.ownBlock).Nodup ∧
    (∀ u ∈ us, ∀ k, u.ownBlock = some k → k < hi) ∧ ∀ k, v.ownBlock = some k → k < hi

/-- Only blocks from lo to hi may have turned. -/
structure Btw (lo hi : Nat) (w w' : World) : Prop where
  os : w'.os = w.os
  tape : w'.tape = w.tape
  output : w'.output = w.output
  size : w.heap.size ≤ w'.heap.size
  block : ∀ k, k < w.heap.size → (k < lo ∨ hi ≤ k) → w'.heap[k]? = w.heap[k]?

theorem Btw.refl (lo hi : Nat) (w : World) : Btw lo hi w w := ⟨rfl, rfl, rfl, Nat.le_refl _, fun _ _ _ => rfl⟩
theorem Btw.trans {lo hi : Nat} {a b c : World} (h : Btw lo hi a b) (k : Btw lo hi b c) : Btw lo hi a c :=
  ⟨k.os.trans h.os, k.tape.trans h.tape, k.output.trans h.output, Nat.le_trans h.size k.size, fun i hi' hr => (k.block i (Nat.lt_of_lt_of_le hi' h.size) hr).trans (h.block i hi' hr)⟩
theorem Btw.of_below {lo hi : Nat} {a b : World} (h : Below a.heap.size a b) : Btw lo hi a b := ⟨h.os, h.tape, h.output, h.size, fun i hi' _ => h.block i hi'⟩
theorem Btw.of_grown {lo hi : Nat} {a b : World} {row : Option Nat} (h : a.grownBy b row) (hr : ∀ k, row = some k → lo ≤ k ∧ k < hi) : Btw lo hi a b :=
  ⟨h.os, h.tape, h.output, h.size, fun i hi' hb => h.block i hi' (fun e => by have := hr i e.symm; omega)⟩
theorem Btw.below {lo hi : Nat} {a w w' : World} (h : Below a.heap.size a w) (k : Btw lo hi w w') (hl : a.heap.size ≤ lo) : Below a.heap.size a w' :=
  ⟨k.os.trans h.os, k.tape.trans h.tape, k.output.trans h.output, Nat.le_trans h.size k.size, fun i hi' => (k.block i (Nat.lt_of_lt_of_le hi' h.size) (.inl (by omega))).trans (h.block i hi')⟩

theorem OwnB.kept {w w' : World} {lo hi : Nat} {v : Value} {s : List B} (h : OwnB w lo hi v s) (hb : ∀ k, lo ≤ k → k < hi → w'.heap[k]? = w.heap[k]?) : OwnB w' lo hi v s := by
  obtain ⟨us, h1, h2, h3, h4, h5, h6⟩ := h
  refine ⟨us, h1, own_block h2 (fun k e => hb k (h2.lt k e).1 (h6 k e)), fun i hi' hi'' => ?_, h4, h5, h6⟩
  exact own_block (h3 i hi' hi'') (fun k e => hb k ((h3 i hi' hi'').lt k e).1 (h5 _ (List.getElem_mem hi'') k e))

theorem OwnB.hi_le {w : World} {lo hi hi' : Nat} {v : Value} {s : List B} (h : OwnB w lo hi v s) (hh : hi ≤ hi') : OwnB w lo hi' v s := by
  obtain ⟨us, h1, h2, h3, h4, h5, h6⟩ := h
  exact ⟨us, h1, h2, h3, h4, fun u hu k e => Nat.lt_of_lt_of_le (h5 u hu k e) hh, fun k e => Nat.lt_of_lt_of_le (h6 k e) hh⟩

theorem OwnB.lo_le {w : World} {lo lo' hi : Nat} {v : Value} {s : List B} (h : OwnB w lo hi v s) (hl : lo' ≤ lo) : OwnB w lo' hi v s := by
  obtain ⟨us, h1, h2, h3, h4, h5, h6⟩ := h
  exact ⟨us, h1, own_lo h2 (fun k e => Nat.le_trans hl (h2.lt k e).1), fun i hi' hi'' => own_lo (h3 i hi' hi'') (fun k e => Nat.le_trans hl ((h3 i hi' hi'').lt k e).1), h4, h5, h6⟩

theorem OwnB.below {w w' : World} {lo hi : Nat} {v : Value} {s : List B} (h : OwnB w lo hi v s) (hh : hi ≤ w.heap.size) (hb : Below w.heap.size w w') : OwnB w' lo hi v s :=
  h.kept (fun k _ hk => hb.block k (by omega))

theorem OwnB.shape {w : World} {lo hi : Nat} {v : Value} {s : List B} (h : OwnB w lo hi v s) : ∃ ao cap, v = .slice ao s.length cap ∧ s.length ≤ cap ∧ cap ≤ maxLen ∧ RowB w ao s := by
  obtain ⟨us, h1, h2, h3, h4, h5, h6⟩ := h
  have h2' := h2
  rcases h2.2 with ⟨e, hn⟩ | ⟨g, cap, cur, e, hg, hh, hc, hm, _⟩
  · have hs : s = [] := List.length_eq_zero_iff.1 hn
    subst hs
    exact ⟨none, 0, e, Nat.le_refl _, Nat.zero_le _, .inl rfl⟩
  · subst e
    refine ⟨_, _, rfl, hc, hm, .inr ⟨g, 0, rfl, fun i hi' => ?_⟩⟩
    have hi'' : i < us.length := by omega
    have f := flatB_get s us h1 i hi' hi''
    have e0 := h2'.cellAt (i * 2) (by omega)
    have e1 := h2'.cellAt (i * 2 + 1) (by omega)
    have ho := h3 i hi' hi''
    rw [Nat.zero_add]
    rcases ho.2 with ⟨eu, hn⟩ | ⟨gu, cu, _, eu, _, hgb, q1, q2, _⟩
    · have ht : s[i].t = [] := List.length_eq_zero_iff.1 hn
      refine ⟨e0.trans f.1, none, 0, ?_, by rw [ht]; simp, by simp, .inl ht⟩
      rw [e1, f.2, eu, ht]; rfl
    · refine ⟨e0.trans f.1, some ⟨gu, 0, none⟩, cu, by rw [e1, f.2, eu], q1, q2, ?_⟩
      rw [eu] at ho
      exact .inr ⟨gu, 0, rfl, owns_at ho rfl⟩

theorem OwnB.row {w : World} {lo hi n cap : Nat} {ao : Option Addr} {s : List B} (h : OwnB w lo hi (.slice ao n cap) s) : RowB w ao s := by
  obtain ⟨ao', cap', e, _, _, hR⟩ := h.shape
  simp only [Value.slice.injEq] at e
  obtain ⟨rfl, _, _⟩ := e
  exact hR
end Go.Proofs.YtonpahhcfgdeoaaDoor

/- The plain mathematics of terms, more: a term's places are just its. -/
namespace Go.Proofs.YtonpahhcfgdeoaaDoor
set_option linter.unusedVariables false
set_option linter.unusedSimpArgs false

theorem ends_append : ∀ (a b : List C) (m : Int) (j : Nat), ends m a = some j → ends m (a ++ b) = some j
  | [], b, m, j, h => by
      simp only [ends] at h
      by_cases hm : m ≤ 0
      · rw [if_pos hm] at h
        cases b <;> simp [ends, hm] <;> simpa using h
      · rw [if_neg hm] at h; cases h
  | c :: a, b, m, j, h => by
      simp only [ends, List.cons_append] at h ⊢
      by_cases hm : m ≤ 0
      · rw [if_pos hm] at h ⊢; exact h
      · rw [if_neg hm] at h ⊢
        cases he : ends (m - 1 + ari c) a with
        | none => rw [he] at h; cases h
        | some i =>
          rw [he] at h
          rw [ends_append a b _ i he]
          exact h

/-- No beginning of a term but all of it is a term. -/
theorem trm_take {t : List C} (h : trm t = true) {k : Nat} (hk : k < t.length) : trm (t.take k) = false := by
  cases e : trm (t.take k) with
  | false => rfl
  | true =>
    exfalso
    have h1 := ((trm_iff t).1 h).2.2.2
    have h2 := ((trm_iff _).1 e).2.2.2
    have h3 := ends_append _ (t.drop k) _ _ h2
    rw [List.take_append_drop, h1] at h3
    simp at h3
    omega

/-- With one place more it is none. -/
theorem trm_more {t : List C} (h : trm t = true) (c : C) : trm (t ++ [c]) = false := by
  cases e : trm (t ++ [c]) with
  | false => rfl
  | true =>
    exfalso
    have h1 := ((trm_iff t).1 h).2.2.2
    have h2 := ((trm_iff _).1 e).2.2.2
    rw [ends_append t [c] _ _ h1] at h2
    simp at h2

theorem trm_len {t : List C} (h : trm t = true) : 1 ≤ t.length ∧ t.length ≤ 40 := ⟨((trm_iff t).1 h).1, ((trm_iff t).1 h).2.1⟩

theorem trm_one : trm [⟨2, 1, ByteArray.mk #[]⟩] = true := by decide
end Go.Proofs.YtonpahhcfgdeoaaDoor

/- A term in bytes, by lists; the specification's TrmBytes. -/
namespace Go.Proofs.YtonpahhcfgdeoaaDoor
open Go.RowKit
set_option linter.unusedVariables false
set_option linter.unusedSimpArgs false
attribute [-go_sem] Go.Builtin.append_

/-- A text's bytes. -/
def bytesL (s : ByteArray) : List Int := s.data.toList.map fun b => (b.toNat : Int)
theorem bytesL_length (s : ByteArray) : (bytesL s).length = s.size := by simp [bytesL]
theorem bytesL_by (s : ByteArray) : ByL (bytesL s) := fun x hx => by
  obtain ⟨b, _, rfl⟩ := List.mem_map.1 hx
  have := b.toNat_lt
  omega
theorem strCells_bys (s : ByteArray) : Go.Lib.strCells s = bys (bytesL s) := by
  simp [Go.Lib.strCells, bys, bytesL]

/-- A place in bytes. -/
def encC (c : C) : List Int := [c.k] ++ num3 c.n ++ if c.k = 3 then [(c.s.size : Int)] ++ bytesL c.s else []
def encL (t : List C) : List Int := t.flatMap encC
/-- A term in bytes; none, if it is none. -/
def encT (t : List C) : List Int := if trm t then [(t.length : Int)] ++ encL t else []

theorem num3_length (n : Int) : (num3 n).length = 3 := by simp [num3, highs]
theorem okC_parts {c : C} (h : okC c = true) : (c.k = 1 ∨ c.k = 2 ∨ c.k = 3) ∧ -9999 ≤ c.n ∧ c.n ≤ 99999 ∧ c.s.size ≤ 8 := by
  by_cases h1 : c.k = 1
  · have := (okC1 h1).1 h
    omega
  by_cases h2 : c.k = 2
  · have := (okC2 h2).1 h
    omega
  by_cases h3 : c.k = 3
  · have := (okC3 h3).1 h
    have h4 := this.2.2
    unfold nameB at h4
    simp only [Bool.and_eq_true, decide_eq_true_eq] at h4
    omega
  · rw [okC4 h1 h2 h3] at h
    cases h
theorem encC_length {c : C} (h : okC c = true) : (encC c).length ≤ 13 := by
  have := okC_parts h
  unfold encC
  rw [List.length_append, List.length_append, num3_length]
  split
  · rw [List.length_append, bytesL_length]
    simp
    omega
  · simp
theorem encL_length : ∀ (t : List C), (∀ c ∈ t, okC c = true) → (encL t).length ≤ 13 * t.length
  | [], _ => by simp [encL]
  | c :: t, h => by
      have h1 := encC_length (h c (by simp))
      have h2 := encL_length t (fun x hx => h x (by simp [hx]))
      unfold encL at h2 ⊢
      rw [List.flatMap_cons, List.length_append, List.length_cons]
      omega
theorem encL_take {t : List C} {k : Nat} (h : k < t.length) : encL (t.take (k + 1)) = encL (t.take k) ++ encC t[k] := by
  unfold encL
  rw [List.take_succ_eq_append_getElem h, List.flatMap_append]
  simp
theorem by_mod (x : Int) : 0 ≤ x % 256 ∧ x % 256 ≤ 255 := by
  have h1 := Int.emod_nonneg x (show (256 : Int) ≠ 0 by omega)
  have h2 := Int.emod_lt_of_pos x (show (0 : Int) < 256 by omega)
  omega
theorem encC_by {c : C} (h : okC c = true) : ByL (encC c) := by
  have hp := okC_parts h
  unfold encC
  refine ByL.app (ByL.app (ByL.one (by omega)) (highs_by _ _)) ?_
  split
  · exact ByL.app (ByL.one (by omega)) (bytesL_by _)
  · exact ByL.nil
theorem encL_by {t : List C} (h : ∀ c ∈ t, okC c = true) : ByL (encL t) := fun x hx => by
  obtain ⟨c, hc, h'⟩ := List.mem_flatMap.1 hx
  exact encC_by (h c hc) x h'
theorem encT_by (t : List C) : ByL (encT t) := by
  unfold encT
  split
  · rename_i h
    have h1 := (trm_iff t).1 h
    exact ByL.app (ByL.one (by omega)) (encL_by h1.2.2.1)
  · exact ByL.nil
theorem encT_length (t : List C) : (encT t).length ≤ 521 := by
  unfold encT
  split
  · rename_i h
    have h1 := (trm_iff t).1 h
    have h2 := encL_length t h1.2.2.1
    simp
    omega
  · simp

/-- The run of an append of a text's bytes. -/
theorem app_str (w : World) (base : Nat) (v : Value) (z : List Int) (s : ByteArray) (hO : OwnY w base v z) (hb : base ≤ w.heap.size) (hz : z.length + s.size ≤ 4194304) :
    ∃ v' w', (Builtin.append_ #[22, 9] 22 #[v, .string s]).run Tryd.prog w = .ok v' w' ∧ OwnY w' base v' (z ++ bytesL s) ∧ w.grownBy w' v.ownBlock := by
  obtain ⟨i0, hi, hz0, hz1, hz2⟩ := info_parts Tryd.infoByte
  obtain ⟨v', w', hr, ho, hg, _⟩ := Go.Lib.run_append_own_string (P := Tryd.prog) w base 22 9 22 5 i0 Tryd.underlying22 Tryd.underlying9 hi hz0 hz1 hz2 v z.length (bys z) hO s (by unfold maxLen; omega) (by omega) hb
  refine ⟨v', w', hr, ?_, hg⟩
  unfold OwnY
  rw [List.length_append, bys_app, bytesL_length, ← strCells_bys]
  exact ho

/-- New bytes are owned. -/
theorem own_new (w : World) (base : Nat) (y : List Int) (cs : Array Value) (hcs : cs = (bys y).toArray) (n : Nat) (hn : n = y.length) (hb : base ≤ w.heap.size) (hl : y.length ≤ 4194304) :
    OwnY (w.alloc (.cells cs 5)) base (.slice (some ⟨w.heap.size, 0, none⟩) n n) y := by
  subst hcs hn
  refine ⟨by simp [bys], .inr ⟨w.heap.size, y.length, _, rfl, hb, heap_alloc_new w _, Nat.le_refl _, by unfold maxLen; omega, by simp [bys], ?_⟩⟩
  simp [bys, List.take_of_length_le]

end Go.Proofs.YtonpahhcfgdeoaaDoor

/- Terms read out of bytes, by lists. -/
namespace Go.Proofs.YtonpahhcfgdeoaaDoor
set_option linter.unusedVariables false
set_option linter.unusedSimpArgs false

/-- The text that bytes are. -/
def strOf (z : List Int) : ByteArray := z.foldl (fun r n => r.push (UInt8.ofNat n.toNat)) ByteArray.empty
theorem strOf_size_from : ∀ (z : List Int) (r : ByteArray), (z.foldl (fun r n => r.push (UInt8.ofNat n.toNat)) r).size = r.size + z.length
  | [], r => by simp
  | x :: z, r => by
      rw [List.foldl_cons, strOf_size_from z, ByteArray.size_push, List.length_cons]
      omega
theorem strOf_size (z : List Int) : (strOf z).size = z.length := by
  unfold strOf
  rw [strOf_size_from]
  simp
/-- A number of three bytes, read. -/
def valN (a b c : Int) : Int := a * 65536 + b * 256 + c - 100000
/-- A place, read: it, and what is left. -/
def rdC : List Int → Option (C × List Int)
  | k :: a :: b :: c :: r =>
    if k = 3 then
      match r with
      | l :: s => if l.toNat ≤ s.length then some (⟨3, valN a b c, strOf (s.take l.toNat)⟩, s.drop l.toNat) else none
      | [] => none
    else some (⟨k, valN a b c, ByteArray.empty⟩, r)
  | _ => none
/-- So many places, read. -/
def rdN : Nat → List Int → Option (List C × List Int)
  | 0, y => some ([], y)
  | n + 1, y => match rdC y with
    | some (c, r) => (rdN n r).map fun x => (c :: x.1, x.2)
    | none => none
/-- A term, read: it, and what is left. -/
def rdT : List Int → Option (List C × List Int)
  | [] => none
  | k :: r => match rdN k.toNat r with
    | some (t, r') => if trm t then some (t, r') else none
    | none => none
/-- A term that all the bytes are. -/
def rdAll (y : List Int) : Option (List C) := match rdT y with
  | some (t, []) => some t
  | _ => none

theorem rdC_suffix {y : List Int} {c : C} {r : List Int} (h : rdC y = some (c, r)) : ∃ m, m ≤ y.length ∧ r = y.drop m := by
  unfold rdC at h
  split at h
  · rename_i k a b c' r'
    split at h
    · split at h
      · rename_i l s
        split at h
        · simp only [Option.some.injEq, Prod.mk.injEq] at h
          refine ⟨5 + l.toNat, by simp; omega, ?_⟩
          rw [← h.2, show 5 + l.toNat = l.toNat + 5 by omega]
          simp
        · cases h
      · cases h
    · simp only [Option.some.injEq, Prod.mk.injEq] at h
      exact ⟨4, by simp, by rw [← h.2]; rfl⟩
  · cases h
/-- One place more, at the end. -/
theorem rdN_snoc : ∀ (n : Nat) (y : List Int), rdN (n + 1) y = match rdN n y with
    | some (t, r) => (match rdC r with | some (c, r') => some (t ++ [c], r') | none => none)
    | none => none
  | 0, y => by
      simp only [rdN]
      cases rdC y with
      | none => rfl
      | some x => obtain ⟨c, r⟩ := x; rfl
  | n + 1, y => by
      rw [rdN]
      cases h : rdC y with
      | none => simp [rdN, h]
      | some x =>
        obtain ⟨c, r⟩ := x
        simp only
        rw [rdN_snoc n r]
        conv => rhs; rw [rdN, h]
        cases hn : rdN n r with
        | none => simp [hn]
        | some q =>
          obtain ⟨t, r2⟩ := q
          simp only [Option.map_some, hn]
          cases hc : rdC r2 with
          | none => simp [hc]
          | some q2 => obtain ⟨c2, r3⟩ := q2; simp [hc]
theorem rdN_none {n m : Nat} {y : List Int} (h : rdN n y = none) (hm : n ≤ m) : rdN m y = none := by
  induction m with
  | zero => have : n = 0 := by omega
            subst this; exact h
  | succ m ih =>
    by_cases e : n = m + 1
    · subst e; exact h
    · rw [rdN_snoc, ih (by omega)]
theorem rdN_len : ∀ (n : Nat) (y : List Int) (t : List C) (r : List Int), rdN n y = some (t, r) → t.length = n
  | 0, y, t, r, h => by simp [rdN] at h; obtain ⟨rfl, _⟩ := h; rfl
  | n + 1, y, t, r, h => by
      rw [rdN] at h
      split at h
      · rename_i c r' hc
        cases hn : rdN n r' with
        | none => rw [hn] at h; cases h
        | some x =>
          rw [hn] at h
          simp only [Option.map_some, Option.some.injEq, Prod.mk.injEq] at h
          rw [← h.1, List.length_cons, rdN_len n r' x.1 x.2 (by rw [hn])]
      · cases h
end Go.Proofs.YtonpahhcfgdeoaaDoor
