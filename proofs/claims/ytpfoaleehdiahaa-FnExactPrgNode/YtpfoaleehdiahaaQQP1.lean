/- Programs in memory: goals, clauses, places. -/
import Derived.Test.YtpfoaleehdiahaaQGX1
namespace Go.Proofs.Ytpfoaleehdiahaa
open Go.RowKit
set_option linter.unusedVariables false
set_option linter.unusedSimpArgs false

/-- A goal. -/
structure Gl where
  k : Int
  a : List C
  b : List C
  c : List C
/-- A clause. -/
structure Cl where
  h : List C
  g : List Gl
/-- Where a name is called. -/
structure Pc where
  s : ByteArray
  n : Int
  d : Int
/-- A slice that leads to places. -/
def SlC (w : World) (v : Value) (t : List C) : Prop := ∃ ao cap, v = .slice ao t.length cap ∧ t.length ≤ cap ∧ cap ≤ maxLen ∧ Row w ao t
theorem SlC.below {w w' : World} {v : Value} {t : List C} (h : SlC w v t) (hb : Below w.heap.size w w') : SlC w' v t := by
  obtain ⟨ao, cap, e, h1, h2, h3⟩ := h
  exact ⟨ao, cap, e, h1, h2, h3.below hb⟩
def GlV (w : World) (x : Gl) (v0 v1 v2 v3 : Value) : Prop := v0 = .int .i64 x.k ∧ SlC w v1 x.a ∧ SlC w v2 x.b ∧ SlC w v3 x.c
theorem GlV.below {w w' : World} {x : Gl} {v0 v1 v2 v3 : Value} (h : GlV w x v0 v1 v2 v3) (hb : Below w.heap.size w w') : GlV w' x v0 v1 v2 v3 := ⟨h.1, h.2.1.below hb, h.2.2.1.below hb, h.2.2.2.below hb⟩
def szGl (x : Gl) : Nat := x.a.length + x.b.length + x.c.length
def FitGl (x : Gl) : Prop := (Fit x.a ∧ WfC x.a) ∧ (Fit x.b ∧ WfC x.b) ∧ Fit x.c ∧ WfC x.c
def AtG (w : World) (b off : Nat) (s : List Gl) : Prop := ∀ i, (h : i < s.length) → ∃ v0 v1 v2 v3, w.cell? ⟨b, off + i * 4, none⟩ = some v0 ∧ w.cell? ⟨b, off + i * 4 + 1, none⟩ = some v1 ∧ w.cell? ⟨b, off + i * 4 + 2, none⟩ = some v2 ∧ w.cell? ⟨b, off + i * 4 + 3, none⟩ = some v3 ∧ GlV w s[i] v0 v1 v2 v3
theorem AtG.below {w w' : World} {b off : Nat} {s : List Gl} (h : AtG w b off s) (hb : Below w.heap.size w w') : AtG w' b off s := fun i hi => by
  obtain ⟨v0, v1, v2, v3, c0, c1, c2, c3, hv⟩ := h i hi
  exact ⟨v0, v1, v2, v3, (hb.cell (p := ⟨b, off + i * 4, none⟩) (World.block_lt_of_cell? w _ c0)).trans c0, (hb.cell (p := ⟨b, off + i * 4 + 1, none⟩) (World.block_lt_of_cell? w _ c1)).trans c1, (hb.cell (p := ⟨b, off + i * 4 + 2, none⟩) (World.block_lt_of_cell? w _ c2)).trans c2, (hb.cell (p := ⟨b, off + i * 4 + 3, none⟩) (World.block_lt_of_cell? w _ c3)).trans c3, hv.below hb⟩
def RowG (w : World) (ao : Option Addr) (s : List Gl) : Prop := s = [] ∨ ∃ b off, ao = some ⟨b, off, none⟩ ∧ AtG w b off s
theorem RowG.below {w w' : World} {ao : Option Addr} {s : List Gl} (h : RowG w ao s) (hb : Below w.heap.size w w') : RowG w' ao s := h.imp_right fun ⟨b, off, e, h⟩ => ⟨b, off, e, h.below hb⟩
def SlG (w : World) (v : Value) (s : List Gl) : Prop := ∃ ao cap, v = .slice ao s.length cap ∧ s.length ≤ cap ∧ cap ≤ maxLen ∧ RowG w ao s
theorem SlG.below {w w' : World} {v : Value} {s : List Gl} (h : SlG w v s) (hb : Below w.heap.size w w') : SlG w' v s := by
  obtain ⟨ao, cap, e, h1, h2, h3⟩ := h
  exact ⟨ao, cap, e, h1, h2, h3.below hb⟩
def totG : List Gl → Nat
  | [] => 0
  | x :: s => szGl x + totG s
theorem totG_append (s r : List Gl) : totG (s ++ r) = totG s + totG r := by
  induction s with
  | nil => simp [totG]
  | cons x s ih => simp [totG, ih]; omega
theorem totG_succ {s : List Gl} {k : Nat} (h : k < s.length) : totG (s.take (k + 1)) = totG (s.take k) + szGl s[k] := by
  rw [List.take_succ_eq_append_getElem h, totG_append]; simp [totG]
theorem totG_mem {s : List Gl} {x : Gl} (h : x ∈ s) : szGl x ≤ totG s := by
  induction s with
  | nil => simp at h
  | cons y s ih =>
    rcases List.mem_cons.1 h with rfl | h
    · simp [totG]
    · have := ih h; simp [totG]; omega
def FitG (s : List Gl) : Prop := ∀ x ∈ s, FitGl x
def ClV (w : World) (x : Cl) (v0 v1 : Value) : Prop := SlC w v0 x.h ∧ SlG w v1 x.g
theorem ClV.below {w w' : World} {x : Cl} {v0 v1 : Value} (h : ClV w x v0 v1) (hb : Below w.heap.size w w') : ClV w' x v0 v1 := ⟨h.1.below hb, h.2.below hb⟩
def szCl (x : Cl) : Nat := x.h.length + x.g.length + totG x.g
def FitCl (x : Cl) : Prop := (Fit x.h ∧ WfC x.h) ∧ FitG x.g
def AtK (w : World) (b off : Nat) (s : List Cl) : Prop := ∀ i, (h : i < s.length) → ∃ v0 v1, w.cell? ⟨b, off + i * 2, none⟩ = some v0 ∧ w.cell? ⟨b, off + i * 2 + 1, none⟩ = some v1 ∧ ClV w s[i] v0 v1
theorem AtK.below {w w' : World} {b off : Nat} {s : List Cl} (h : AtK w b off s) (hb : Below w.heap.size w w') : AtK w' b off s := fun i hi => by
  obtain ⟨v0, v1, c0, c1, hv⟩ := h i hi
  exact ⟨v0, v1, (hb.cell (p := ⟨b, off + i * 2, none⟩) (World.block_lt_of_cell? w _ c0)).trans c0, (hb.cell (p := ⟨b, off + i * 2 + 1, none⟩) (World.block_lt_of_cell? w _ c1)).trans c1, hv.below hb⟩
def RowK (w : World) (ao : Option Addr) (s : List Cl) : Prop := s = [] ∨ ∃ b off, ao = some ⟨b, off, none⟩ ∧ AtK w b off s
theorem RowK.below {w w' : World} {ao : Option Addr} {s : List Cl} (h : RowK w ao s) (hb : Below w.heap.size w w') : RowK w' ao s := h.imp_right fun ⟨b, off, e, h⟩ => ⟨b, off, e, h.below hb⟩
def SlK (w : World) (v : Value) (s : List Cl) : Prop := ∃ ao cap, v = .slice ao s.length cap ∧ s.length ≤ cap ∧ cap ≤ maxLen ∧ RowK w ao s
theorem SlK.below {w w' : World} {v : Value} {s : List Cl} (h : SlK w v s) (hb : Below w.heap.size w w') : SlK w' v s := by
  obtain ⟨ao, cap, e, h1, h2, h3⟩ := h
  exact ⟨ao, cap, e, h1, h2, h3.below hb⟩
def totK : List Cl → Nat
  | [] => 0
  | x :: s => szCl x + totK s
theorem totK_append (s r : List Cl) : totK (s ++ r) = totK s + totK r := by
  induction s with
  | nil => simp [totK]
  | cons x s ih => simp [totK, ih]; omega
theorem totK_succ {s : List Cl} {k : Nat} (h : k < s.length) : totK (s.take (k + 1)) = totK (s.take k) + szCl s[k] := by
  rw [List.take_succ_eq_append_getElem h, totK_append]; simp [totK]
theorem totK_mem {s : List Cl} {x : Cl} (h : x ∈ s) : szCl x ≤ totK s := by
  induction s with
  | nil => simp at h
  | cons y s ih =>
    rcases List.mem_cons.1 h with rfl | h
    · simp [totK]
    · have := ih h; simp [totK]; omega
def FitK (s : List Cl) : Prop := ∀ x ∈ s, FitCl x
def PcV (w : World) (x : Pc) (v0 v1 v2 : Value) : Prop := v0 = .string x.s ∧ v1 = .int .i64 x.n ∧ v2 = .int .i64 x.d
theorem PcV.below {w w' : World} {x : Pc} {v0 v1 v2 : Value} (h : PcV w x v0 v1 v2) (hb : Below w.heap.size w w') : PcV w' x v0 v1 v2 := h
def szPc (x : Pc) : Nat := x.s.size
def FitPc (x : Pc) : Prop := x.s.size ≤ maxLen ∧ (Lit.int .i64 x.n).wf = true ∧ (Lit.int .i64 x.d).wf = true
def AtP (w : World) (b off : Nat) (s : List Pc) : Prop := ∀ i, (h : i < s.length) → ∃ v0 v1 v2, w.cell? ⟨b, off + i * 3, none⟩ = some v0 ∧ w.cell? ⟨b, off + i * 3 + 1, none⟩ = some v1 ∧ w.cell? ⟨b, off + i * 3 + 2, none⟩ = some v2 ∧ PcV w s[i] v0 v1 v2
theorem AtP.below {w w' : World} {b off : Nat} {s : List Pc} (h : AtP w b off s) (hb : Below w.heap.size w w') : AtP w' b off s := fun i hi => by
  obtain ⟨v0, v1, v2, c0, c1, c2, hv⟩ := h i hi
  exact ⟨v0, v1, v2, (hb.cell (p := ⟨b, off + i * 3, none⟩) (World.block_lt_of_cell? w _ c0)).trans c0, (hb.cell (p := ⟨b, off + i * 3 + 1, none⟩) (World.block_lt_of_cell? w _ c1)).trans c1, (hb.cell (p := ⟨b, off + i * 3 + 2, none⟩) (World.block_lt_of_cell? w _ c2)).trans c2, hv.below hb⟩
def RowP (w : World) (ao : Option Addr) (s : List Pc) : Prop := s = [] ∨ ∃ b off, ao = some ⟨b, off, none⟩ ∧ AtP w b off s
theorem RowP.below {w w' : World} {ao : Option Addr} {s : List Pc} (h : RowP w ao s) (hb : Below w.heap.size w w') : RowP w' ao s := h.imp_right fun ⟨b, off, e, h⟩ => ⟨b, off, e, h.below hb⟩
def SlP (w : World) (v : Value) (s : List Pc) : Prop := ∃ ao cap, v = .slice ao s.length cap ∧ s.length ≤ cap ∧ cap ≤ maxLen ∧ RowP w ao s
theorem SlP.below {w w' : World} {v : Value} {s : List Pc} (h : SlP w v s) (hb : Below w.heap.size w w') : SlP w' v s := by
  obtain ⟨ao, cap, e, h1, h2, h3⟩ := h
  exact ⟨ao, cap, e, h1, h2, h3.below hb⟩
def totP : List Pc → Nat
  | [] => 0
  | x :: s => szPc x + totP s
theorem totP_append (s r : List Pc) : totP (s ++ r) = totP s + totP r := by
  induction s with
  | nil => simp [totP]
  | cons x s ih => simp [totP, ih]; omega
theorem totP_succ {s : List Pc} {k : Nat} (h : k < s.length) : totP (s.take (k + 1)) = totP (s.take k) + szPc s[k] := by
  rw [List.take_succ_eq_append_getElem h, totP_append]; simp [totP]
theorem totP_mem {s : List Pc} {x : Pc} (h : x ∈ s) : szPc x ≤ totP s := by
  induction s with
  | nil => simp at h
  | cons y s ih =>
    rcases List.mem_cons.1 h with rfl | h
    · simp [totP]
    · have := ih h; simp [totP]; omega
def FitP (s : List Pc) : Prop := ∀ x ∈ s, FitPc x
end Go.Proofs.Ytpfoaleehdiahaa
