import Derived.Test.YtjjpmlcaapedhaaDoorQPB1
import Derived.Test.YtjjpmlcaapedhaaDoorQMem2Mem3W9W11W12
import Derived.Test.YtjjpmlcaapedhaaDoorQW10W13
import Derived.Test.YtjjpmlcaapedhaaDoorQPlainMemOpenOpen2
import Derived.Test.YtjjpmlcaapedhaaDoorQYW1YB1YB2W2
import Derived.Test.YtjjpmlcaapedhaaDoorQW4
import Derived.Lib.AppendStr
import Derived.BigQuiet
import Derived.Deep.RegionWith
/- Bindings in memory: a slice of structs, each a number and a slice of places. -/
namespace Go.Proofs.YtjjpmlcaapedhaaDoor
open Go.RowKit
set_option linter.unusedVariables false
set_option linter.unusedSimpArgs false

/-- From cell 'off' of block b on lie bindings, two cells each. -/
def AtB (w : World) (b off : Nat) (s : List B) : Prop :=
  ∀ i, (h : i < s.length) → w.cell? ⟨b, off + i * 2, none⟩ = some (.int .i64 s[i].v) ∧ ∃ ao cap, w.cell? ⟨b, off + i * 2 + 1, none⟩ = some (.slice ao s[i].t.length cap) ∧ s[i].t.length ≤ cap ∧ cap ≤ maxLen ∧ Row w ao s[i].t

def RowB (w : World) (ao : Option Addr) (s : List B) : Prop := s = [] ∨ ∃ b off, ao = some ⟨b, off, none⟩ ∧ AtB w b off s

/-- All that bindings hold fits. -/
def FitB (s : List B) : Prop := ∀ x ∈ s, Fit x.t ∧ WfC x.t ∧ (Lit.int .i64 x.v).wf = true

theorem AtB.below {w w' : World} {b off : Nat} {s : List B} (h : AtB w b off s) (hb : Below w.heap.size w w') : AtB w' b off s := fun i hi => by
  obtain ⟨h1, ao, cap, h2, h3, h4, h5⟩ := h i hi
  exact ⟨(hb.cell (p := ⟨b, _, none⟩) (World.block_lt_of_cell? w _ h1)).trans h1, ao, cap, (hb.cell (p := ⟨b, _, none⟩) (World.block_lt_of_cell? w _ h2)).trans h2, h3, h4, h5.below hb⟩
theorem RowB.below {w w' : World} {ao : Option Addr} {s : List B} (h : RowB w ao s) (hb : Below w.heap.size w w') : RowB w' ao s := by
  rcases h with h | ⟨b, off, e, h⟩
  · exact .inl h
  · exact .inr ⟨b, off, e, h.below hb⟩

/-- How many places bindings hold together. -/
def tot : List B → Nat
  | [] => 0
  | x :: s => x.t.length + tot s
theorem tot_append (s r : List B) : tot (s ++ r) = tot s + tot r := by
  induction s with
  | nil => simp [tot]
  | cons x s ih => simp [tot, ih]; omega
theorem tot_take_succ {s : List B} {k : Nat} (h : k < s.length) : tot (s.take (k + 1)) = tot (s.take k) + s[k].t.length := by
  rw [List.take_succ_eq_append_getElem h, tot_append]; simp [tot]
theorem tot_mem {s : List B} {x : B} (h : x ∈ s) : x.t.length ≤ tot s := by
  induction s with
  | nil => simp at h
  | cons y s ih =>
    rcases List.mem_cons.1 h with rfl | h
    · simp [tot]
    · have := ih h; simp [tot]; omega
theorem tot_take_le (s : List B) (k : Nat) : tot (s.take k) ≤ tot s := by
  conv => rhs; rw [← List.take_append_drop k s, tot_append]
  omega

def flatB : List B → List Value → List Value
  | x :: s, u :: us => .int .i64 x.v :: u :: flatB s us
  | _, _ => []

theorem flatB_length : ∀ (s : List B) (us : List Value), us.length = s.length → (flatB s us).length = s.length * 2
  | [], us, h => by cases us <;> rfl
  | x :: s, [], h => by simp at h
  | x :: s, u :: us, h => by have := flatB_length s us (by simpa using h); simp [flatB, this]; omega

theorem flatB_get : ∀ (s : List B) (us : List Value), us.length = s.length → ∀ (i : Nat) (h : i < s.length) (h' : i < us.length), (flatB s us)[i * 2]? = some (.int .i64 s[i].v) ∧ (flatB s us)[i * 2 + 1]? = some us[i]
  | x :: s, u :: us, hl, 0, h, h' => ⟨rfl, rfl⟩
  | x :: s, u :: us, hl, i + 1, h, h' => by
      have := flatB_get s us (by simpa using hl) i (by simpa using h) (by simpa using h')
      rw [show (i + 1) * 2 = i * 2 + 2 by omega]
      simpa [flatB] using this

theorem flatB_append : ∀ (s r : List B) (us vs : List Value), us.length = s.length → flatB (s ++ r) (us ++ vs) = flatB s us ++ flatB r vs
  | [], r, us, vs, h => by cases us with | nil => simp [flatB] | cons _ _ => simp at h
  | x :: s, r, [], vs, h => by simp at h
  | x :: s, r, u :: us, vs, h => by simp [flatB, flatB_append s r us vs (by simpa using h)]

theorem flatB_set_var : ∀ (s : List B) (us : List Value), us.length = s.length → ∀ (i : Nat) (z : Int) (h : i < s.length), (flatB s us).set (i * 2) (.int .i64 z) = flatB (s.set i ⟨z, s[i].t⟩) us
  | x :: s, u :: us, hl, 0, z, h => by simp [flatB]
  | x :: s, u :: us, hl, i + 1, z, h => by
      have := flatB_set_var s us (by simpa using hl) i z (by simpa using h)
      rw [show (i + 1) * 2 = i * 2 + 1 + 1 by omega]
      simp [flatB, this]

theorem flatB_set_term : ∀ (s : List B) (us : List Value) (i : Nat) (t : List C) (h : i < s.length), flatB (s.set i ⟨s[i].v, t⟩) us = flatB s us
  | [], us, i, t, h => by simp at h
  | x :: s, [], i, t, h => by cases i <;> rfl
  | x :: s, u :: us, 0, t, h => rfl
  | x :: s, u :: us, i + 1, t, h => by
      have := flatB_set_term s us i t (by simpa using h)
      simp [flatB, this]

/-- What is owned hangs on its own block alone. -/
theorem own_block {w w' : World} {base e size n : Nat} {v : Value} {xs : List Value} (h : w.ownsRow base e size v n xs) (hb : ∀ k, v.ownBlock = some k → w'.heap[k]? = w.heap[k]?) : w'.ownsRow base e size v n xs := by
  refine ⟨h.1, ?_⟩
  rcases h.2 with h2 | ⟨g, cap, cur, rfl, hg, hh, r⟩
  · exact .inl h2
  · exact .inr ⟨g, cap, cur, rfl, hg, (hb g rfl).trans hh, r⟩

theorem own_lo {w : World} {base base' e size n : Nat} {v : Value} {xs : List Value} (h : w.ownsRow base e size v n xs) (hb : ∀ k, v.ownBlock = some k → base' ≤ k) : w.ownsRow base' e size v n xs := by
  refine ⟨h.1, ?_⟩
  rcases h.2 with h2 | ⟨g, cap, cur, rfl, hg, r⟩
  · exact .inl h2
  · exact .inr ⟨g, cap, cur, rfl, hb g rfl, r⟩

/-- Only blocks from lo to hi may have turned. -/
structure Btw (lo hi : Nat) (w w' : World) : Prop where
  os : w'.os = w.os
  tape : w'.tape = w.tape
  output : w'.output = w.output
  size : w.heap.size ≤ w'.heap.size
  block : ∀ k, k < w.heap.size → (k < lo ∨ hi ≤ k) → w'.heap[k]? = w.heap[k]?

theorem Btw.refl (lo hi : Nat) (w : World) : Btw lo hi w w := ⟨rfl, rfl, rfl, Nat.le_refl _, fun _ _ _ => rfl⟩
theorem Btw.trans {lo hi : Nat} {a b c : World} (h : Btw lo hi a b) (k : Btw lo hi b c) : Btw lo hi a c :=
  ⟨k.os.trans h.os, k.tape.trans h.tape, k.output.trans h.output, Nat.le_trans h.size k.size, fun i hi' hr => (k.block i (Nat.lt_of_lt_of_le hi' h.size) hr).trans (h.block i hi' hr)⟩
theorem Btw.of_below {lo hi : Nat} {a b : World} (h : Below a.heap.size a b) : Btw lo hi a b := ⟨h.os, h.tape, h.output, h.size, fun i hi' _ => h.block i hi'⟩
theorem Btw.of_grown {lo hi : Nat} {a b : World} {row : Option Nat} (h : a.grownBy b row) (hr : ∀ k, row = some k → lo ≤ k ∧ k < hi) : Btw lo hi a b :=
  ⟨h.os, h.tape, h.output, h.size, fun i hi' hb => h.block i hi' (fun e => by have := hr i e.symm; omega)⟩
theorem Btw.below {lo hi : Nat} {a w w' : World} (h : Below a.heap.size a w) (k : Btw lo hi w w') (hl : a.heap.size ≤ lo) : Below a.heap.size a w' :=
  ⟨k.os.trans h.os, k.tape.trans h.tape, k.output.trans h.output, Nat.le_trans h.size k.size, fun i hi' => (k.block i (Nat.lt_of_lt_of_le hi' h.size) (.inl (by omega))).trans (h.block i hi')⟩

end Go.Proofs.YtjjpmlcaapedhaaDoor

/- The plain mathematics of terms, more: a term's places are just its. -/
namespace Go.Proofs.YtjjpmlcaapedhaaDoor
set_option linter.unusedVariables false
set_option linter.unusedSimpArgs false

theorem ends_append : ∀ (a b : List C) (m : Int) (j : Nat), ends m a = some j → ends m (a ++ b) = some j
  | [], b, m, j, h => by
      simp only [ends] at h
      by_cases hm : m ≤ 0
      · rw [if_pos hm] at h
        cases b <;> simp [ends, hm] <;> simpa using h
      · rw [if_neg hm] at h; cases h
  | c :: a, b, m, j, h => by
      simp only [ends, List.cons_append] at h ⊢
      by_cases hm : m ≤ 0
      · rw [if_pos hm] at h ⊢; exact h
      · rw [if_neg hm] at h ⊢
        cases he : ends (m - 1 + ari c) a with
        | none => rw [he] at h; cases h
        | some i =>
          rw [he] at h
          rw [ends_append a b _ i he]
          exact h

/-- No beginning of a term but all of it is a term. -/
theorem trm_take {t : List C} (h : trm t = true) {k : Nat} (hk : k < t.length) : trm (t.take k) = false := by
  cases e : trm (t.take k) with
  | false => rfl
  | true =>
    exfalso
    have h1 := ((trm_iff t).1 h).2.2.2
    have h2 := ((trm_iff _).1 e).2.2.2
    have h3 := ends_append _ (t.drop k) _ _ h2
    rw [List.take_append_drop, h1] at h3
    simp at h3
    omega

/-- With one place more it is none. -/
theorem trm_more {t : List C} (h : trm t = true) (c : C) : trm (t ++ [c]) = false := by
  cases e : trm (t ++ [c]) with
  | false => rfl
  | true =>
    exfalso
    have h1 := ((trm_iff t).1 h).2.2.2
    have h2 := ((trm_iff _).1 e).2.2.2
    rw [ends_append t [c] _ _ h1] at h2
    simp at h2

theorem trm_len {t : List C} (h : trm t = true) : 1 ≤ t.length ∧ t.length ≤ 40 := ⟨((trm_iff t).1 h).1, ((trm_iff t).1 h).2.1⟩

theorem trm_one : trm [⟨2, 1, ByteArray.mk #[]⟩] = true := by decide
end Go.Proofs.YtjjpmlcaapedhaaDoor

/- A term in bytes, by lists; the specification's TrmBytes. -/
namespace Go.Proofs.YtjjpmlcaapedhaaDoor
open Go.RowKit
set_option linter.unusedVariables false
set_option linter.unusedSimpArgs false
attribute [-go_sem] Go.Builtin.append_

/-- A text's bytes. -/
def bytesL (s : ByteArray) : List Int := s.data.toList.map fun b => (b.toNat : Int)
theorem bytesL_length (s : ByteArray) : (bytesL s).length = s.size := by simp [bytesL]
theorem bytesL_by (s : ByteArray) : ByL (bytesL s) := fun x hx => by
  obtain ⟨b, _, rfl⟩ := List.mem_map.1 hx
  have := b.toNat_lt
  omega
theorem strCells_bys (s : ByteArray) : Go.Lib.strCells s = bys (bytesL s) := by
  simp [Go.Lib.strCells, bys, bytesL]

/-- A place in bytes. -/
def encC (c : C) : List Int := [c.k] ++ num3 c.n ++ if c.k = 3 then [(c.s.size : Int)] ++ bytesL c.s else []
def encL (t : List C) : List Int := t.flatMap encC
/-- A term in bytes; none, if it is none. -/
def encT (t : List C) : List Int := if trm t then [(t.length : Int)] ++ encL t else []

theorem num3_length (n : Int) : (num3 n).length = 3 := by simp [num3, highs]
theorem okC_parts {c : C} (h : okC c = true) : (c.k = 1 ∨ c.k = 2 ∨ c.k = 3) ∧ -9999 ≤ c.n ∧ c.n ≤ 99999 ∧ c.s.size ≤ 8 := by
  by_cases h1 : c.k = 1
  · have := (okC1 h1).1 h
    omega
  by_cases h2 : c.k = 2
  · have := (okC2 h2).1 h
    omega
  by_cases h3 : c.k = 3
  · have := (okC3 h3).1 h
    have h4 := this.2.2
    unfold nameB at h4
    simp only [Bool.and_eq_true, decide_eq_true_eq] at h4
    omega
  · rw [okC4 h1 h2 h3] at h
    cases h
theorem encC_length {c : C} (h : okC c = true) : (encC c).length ≤ 13 := by
  have := okC_parts h
  unfold encC
  rw [List.length_append, List.length_append, num3_length]
  split
  · rw [List.length_append, bytesL_length]
    simp
    omega
  · simp
theorem encL_length : ∀ (t : List C), (∀ c ∈ t, okC c = true) → (encL t).length ≤ 13 * t.length
  | [], _ => by simp [encL]
  | c :: t, h => by
      have h1 := encC_length (h c (by simp))
      have h2 := encL_length t (fun x hx => h x (by simp [hx]))
      unfold encL at h2 ⊢
      rw [List.flatMap_cons, List.length_append, List.length_cons]
      omega
theorem encL_take {t : List C} {k : Nat} (h : k < t.length) : encL (t.take (k + 1)) = encL (t.take k) ++ encC t[k] := by
  unfold encL
  rw [List.take_succ_eq_append_getElem h, List.flatMap_append]
  simp
theorem by_mod (x : Int) : 0 ≤ x % 256 ∧ x % 256 ≤ 255 := by
  have h1 := Int.emod_nonneg x (show (256 : Int) ≠ 0 by omega)
  have h2 := Int.emod_lt_of_pos x (show (0 : Int) < 256 by omega)
  omega
theorem encC_by {c : C} (h : okC c = true) : ByL (encC c) := by
  have hp := okC_parts h
  unfold encC
  refine ByL.app (ByL.app (ByL.one (by omega)) (highs_by _ _)) ?_
  split
  · exact ByL.app (ByL.one (by omega)) (bytesL_by _)
  · exact ByL.nil
theorem encL_by {t : List C} (h : ∀ c ∈ t, okC c = true) : ByL (encL t) := fun x hx => by
  obtain ⟨c, hc, h'⟩ := List.mem_flatMap.1 hx
  exact encC_by (h c hc) x h'
theorem encT_by (t : List C) : ByL (encT t) := by
  unfold encT
  split
  · rename_i h
    have h1 := (trm_iff t).1 h
    exact ByL.app (ByL.one (by omega)) (encL_by h1.2.2.1)
  · exact ByL.nil
theorem encT_length (t : List C) : (encT t).length ≤ 521 := by
  unfold encT
  split
  · rename_i h
    have h1 := (trm_iff t).1 h
    have h2 := encL_length t h1.2.2.1
    simp
    omega
  · simp

/-- The run of an append of a text's bytes. -/
theorem app_str (w : World) (base : Nat) (v : Value) (z : List Int) (s : ByteArray) (hO : OwnY w base v z) (hb : base ≤ w.heap.size) (hz : z.length + s.size ≤ 4194304) :
    ∃ v' w', (Builtin.append_ #[22, 9] 22 #[v, .string s]).run Tryd.prog w = .ok v' w' ∧ OwnY w' base v' (z ++ bytesL s) ∧ w.grownBy w' v.ownBlock := by
  obtain ⟨i0, hi, hz0, hz1, hz2⟩ := info_parts Tryd.infoByte
  obtain ⟨v', w', hr, ho, hg, _⟩ := Go.Lib.run_append_own_string (P := Tryd.prog) w base 22 9 22 5 i0 Tryd.underlying22 Tryd.underlying9 hi hz0 hz1 hz2 v z.length (bys z) hO s (by unfold maxLen; omega) (by omega) hb
  refine ⟨v', w', hr, ?_, hg⟩
  unfold OwnY
  rw [List.length_append, bys_app, bytesL_length, ← strCells_bys]
  exact ho

/-- New bytes are owned. -/
theorem own_new (w : World) (base : Nat) (y : List Int) (cs : Array Value) (hcs : cs = (bys y).toArray) (n : Nat) (hn : n = y.length) (hb : base ≤ w.heap.size) (hl : y.length ≤ 4194304) :
    OwnY (w.alloc (.cells cs 5)) base (.slice (some ⟨w.heap.size, 0, none⟩) n n) y := by
  subst hcs hn
  refine ⟨by simp [bys], .inr ⟨w.heap.size, y.length, _, rfl, hb, heap_alloc_new w _, Nat.le_refl _, by unfold maxLen; omega, by simp [bys], ?_⟩⟩
  simp [bys, List.take_of_length_le]

end Go.Proofs.YtjjpmlcaapedhaaDoor
