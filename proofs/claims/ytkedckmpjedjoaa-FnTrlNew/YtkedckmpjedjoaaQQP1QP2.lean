import Derived.Test.YtkedckmpjedjoaaQGX1
/- Programs in memory: goals, clauses, places. -/
namespace Go.Proofs.Ytkedckmpjedjoaa
open Go.RowKit
set_option linter.unusedVariables false
set_option linter.unusedSimpArgs false

/-- A goal. -/
structure Gl where
  k : Int
  a : List C
  b : List C
  c : List C
/-- A clause. -/
structure Cl where
  h : List C
  g : List Gl
/-- Where a name is called. -/
structure Pc where
  s : ByteArray
  n : Int
  d : Int
/-- A slice that leads to places. -/
def SlC (w : World) (v : Value) (t : List C) : Prop := ∃ ao cap, v = .slice ao t.length cap ∧ t.length ≤ cap ∧ cap ≤ maxLen ∧ Row w ao t
theorem SlC.below {w w' : World} {v : Value} {t : List C} (h : SlC w v t) (hb : Below w.heap.size w w') : SlC w' v t := by
  obtain ⟨ao, cap, e, h1, h2, h3⟩ := h
  exact ⟨ao, cap, e, h1, h2, h3.below hb⟩
def GlV (w : World) (x : Gl) (v0 v1 v2 v3 : Value) : Prop := v0 = .int .i64 x.k ∧ SlC w v1 x.a ∧ SlC w v2 x.b ∧ SlC w v3 x.c
theorem GlV.below {w w' : World} {x : Gl} {v0 v1 v2 v3 : Value} (h : GlV w x v0 v1 v2 v3) (hb : Below w.heap.size w w') : GlV w' x v0 v1 v2 v3 := ⟨h.1, h.2.1.below hb, h.2.2.1.below hb, h.2.2.2.below hb⟩
def szGl (x : Gl) : Nat := x.a.length + x.b.length + x.c.length
def FitGl (x : Gl) : Prop := (Fit x.a ∧ WfC x.a) ∧ (Fit x.b ∧ WfC x.b) ∧ Fit x.c ∧ WfC x.c
def AtG (w : World) (b off : Nat) (s : List Gl) : Prop := ∀ i, (h : i < s.length) → ∃ v0 v1 v2 v3, w.cell? ⟨b, off + i * 4, none⟩ = some v0 ∧ w.cell? ⟨b, off + i * 4 + 1, none⟩ = some v1 ∧ w.cell? ⟨b, off + i * 4 + 2, none⟩ = some v2 ∧ w.cell? ⟨b, off + i * 4 + 3, none⟩ = some v3 ∧ GlV w s[i] v0 v1 v2 v3
theorem AtG.below {w w' : World} {b off : Nat} {s : List Gl} (h : AtG w b off s) (hb : Below w.heap.size w w') : AtG w' b off s := fun i hi => by
  obtain ⟨v0, v1, v2, v3, c0, c1, c2, c3, hv⟩ := h i hi
  exact ⟨v0, v1, v2, v3, (hb.cell (p := ⟨b, off + i * 4, none⟩) (World.block_lt_of_cell? w _ c0)).trans c0, (hb.cell (p := ⟨b, off + i * 4 + 1, none⟩) (World.block_lt_of_cell? w _ c1)).trans c1, (hb.cell (p := ⟨b, off + i * 4 + 2, none⟩) (World.block_lt_of_cell? w _ c2)).trans c2, (hb.cell (p := ⟨b, off + i * 4 + 3, none⟩) (World.block_lt_of_cell? w _ c3)).trans c3, hv.below hb⟩
def RowG (w : World) (ao : Option Addr) (s : List Gl) : Prop := s = [] ∨ ∃ b off, ao = some ⟨b, off, none⟩ ∧ AtG w b off s
theorem RowG.below {w w' : World} {ao : Option Addr} {s : List Gl} (h : RowG w ao s) (hb : Below w.heap.size w w') : RowG w' ao s := h.imp_right fun ⟨b, off, e, h⟩ => ⟨b, off, e, h.below hb⟩
def SlG (w : World) (v : Value) (s : List Gl) : Prop := ∃ ao cap, v = .slice ao s.length cap ∧ s.length ≤ cap ∧ cap ≤ maxLen ∧ RowG w ao s
theorem SlG.below {w w' : World} {v : Value} {s : List Gl} (h : SlG w v s) (hb : Below w.heap.size w w') : SlG w' v s := by
  obtain ⟨ao, cap, e, h1, h2, h3⟩ := h
  exact ⟨ao, cap, e, h1, h2, h3.below hb⟩
def totG : List Gl → Nat
  | [] => 0
  | x :: s => szGl x + totG s
theorem totG_append (s r : List Gl) : totG (s ++ r) = totG s + totG r := by
  induction s with
  | nil => simp [totG]
  | cons x s ih => simp [totG, ih]; omega
theorem totG_succ {s : List Gl} {k : Nat} (h : k < s.length) : totG (s.take (k + 1)) = totG (s.take k) + szGl s[k] := by
  rw [List.take_succ_eq_append_getElem h, totG_append]; simp [totG]
theorem totG_mem {s : List Gl} {x : Gl} (h : x ∈ s) : szGl x ≤ totG s := by
  induction s with
  | nil => simp at h
  | cons y s ih =>
    rcases List.mem_cons.1 h with rfl | h
    · simp [totG]
    · have := ih h; simp [totG]; omega
def FitG (s : List Gl) : Prop := ∀ x ∈ s, FitGl x
def ClV (w : World) (x : Cl) (v0 v1 : Value) : Prop := SlC w v0 x.h ∧ SlG w v1 x.g
theorem ClV.below {w w' : World} {x : Cl} {v0 v1 : Value} (h : ClV w x v0 v1) (hb : Below w.heap.size w w') : ClV w' x v0 v1 := ⟨h.1.below hb, h.2.below hb⟩
def szCl (x : Cl) : Nat := x.h.length + x.g.length + totG x.g
def FitCl (x : Cl) : Prop := (Fit x.h ∧ WfC x.h) ∧ FitG x.g
def AtK (w : World) (b off : Nat) (s : List Cl) : Prop := ∀ i, (h : i < s.length) → ∃ v0 v1, w.cell? ⟨b, off + i * 2, none⟩ = some v0 ∧ w.cell? ⟨b, off + i * 2 + 1, none⟩ = some v1 ∧ ClV w s[i] v0 v1
theorem AtK.below {w w' : World} {b off : Nat} {s : List Cl} (h : AtK w b off s) (hb : Below w.heap.size w w') : AtK w' b off s := fun i hi => by
  obtain ⟨v0, v1, c0, c1, hv⟩ := h i hi
  exact ⟨v0, v1, (hb.cell (p := ⟨b, off + i * 2, none⟩) (World.block_lt_of_cell? w _ c0)).trans c0, (hb.cell (p := ⟨b, off + i * 2 + 1, none⟩) (World.block_lt_of_cell? w _ c1)).trans c1, hv.below hb⟩
def RowK (w : World) (ao : Option Addr) (s : List Cl) : Prop := s = [] ∨ ∃ b off, ao = some ⟨b, off, none⟩ ∧ AtK w b off s
theorem RowK.below {w w' : World} {ao : Option Addr} {s : List Cl} (h : RowK w ao s) (hb : Below w.heap.size w w') : RowK w' ao s := h.imp_right fun ⟨b, off, e, h⟩ => ⟨b, off, e, h.below hb⟩
def SlK (w : World) (v : Value) (s : List Cl) : Prop := ∃ ao cap, v = .slice ao s.length cap ∧ s.length ≤ cap ∧ cap ≤ maxLen ∧ RowK w ao s
theorem SlK.below {w w' : World} {v : Value} {s : List Cl} (h : SlK w v s) (hb : Below w.heap.size w w') : SlK w' v s := by
  obtain ⟨ao, cap, e, h1, h2, h3⟩ := h
  exact ⟨ao, cap, e, h1, h2, h3.below hb⟩
def totK : List Cl → Nat
  | [] => 0
  | x :: s => szCl x + totK s
theorem totK_append (s r : List Cl) : totK (s ++ r) = totK s + totK r := by
  induction s with
  | nil => simp [totK]
  | cons x s ih => simp [totK, ih]; omega
theorem totK_succ {s : List Cl} {k : Nat} (h : k < s.length) : totK (s.take (k + 1)) = totK (s.take k) + szCl s[k] := by
  rw [List.take_succ_eq_append_getElem h, totK_append]; simp [totK]
theorem totK_mem {s : List Cl} {x : Cl} (h : x ∈ s) : szCl x ≤ totK s := by
  induction s with
  | nil => simp at h
  | cons y s ih =>
    rcases List.mem_cons.1 h with rfl | h
    · simp [totK]
    · have := ih h; simp [totK]; omega
def FitK (s : List Cl) : Prop := ∀ x ∈ s, FitCl x
def PcV (w : World) (x : Pc) (v0 v1 v2 : Value) : Prop := v0 = .string x.s ∧ v1 = .int .i64 x.n ∧ v2 = .int .i64 x.d
theorem PcV.below {w w' : World} {x : Pc} {v0 v1 v2 : Value} (h : PcV w x v0 v1 v2) (hb : Below w.heap.size w w') : PcV w' x v0 v1 v2 := h
def szPc (x : Pc) : Nat := x.s.size
def FitPc (x : Pc) : Prop := x.s.size ≤ maxLen ∧ (Lit.int .i64 x.n).wf = true ∧ (Lit.int .i64 x.d).wf = true
def AtP (w : World) (b off : Nat) (s : List Pc) : Prop := ∀ i, (h : i < s.length) → ∃ v0 v1 v2, w.cell? ⟨b, off + i * 3, none⟩ = some v0 ∧ w.cell? ⟨b, off + i * 3 + 1, none⟩ = some v1 ∧ w.cell? ⟨b, off + i * 3 + 2, none⟩ = some v2 ∧ PcV w s[i] v0 v1 v2
theorem AtP.below {w w' : World} {b off : Nat} {s : List Pc} (h : AtP w b off s) (hb : Below w.heap.size w w') : AtP w' b off s := fun i hi => by
  obtain ⟨v0, v1, v2, c0, c1, c2, hv⟩ := h i hi
  exact ⟨v0, v1, v2, (hb.cell (p := ⟨b, off + i * 3, none⟩) (World.block_lt_of_cell? w _ c0)).trans c0, (hb.cell (p := ⟨b, off + i * 3 + 1, none⟩) (World.block_lt_of_cell? w _ c1)).trans c1, (hb.cell (p := ⟨b, off + i * 3 + 2, none⟩) (World.block_lt_of_cell? w _ c2)).trans c2, hv.below hb⟩
def RowP (w : World) (ao : Option Addr) (s : List Pc) : Prop := s = [] ∨ ∃ b off, ao = some ⟨b, off, none⟩ ∧ AtP w b off s
theorem RowP.below {w w' : World} {ao : Option Addr} {s : List Pc} (h : RowP w ao s) (hb : Below w.heap.size w w') : RowP w' ao s := h.imp_right fun ⟨b, off, e, h⟩ => ⟨b, off, e, h.below hb⟩
def SlP (w : World) (v : Value) (s : List Pc) : Prop := ∃ ao cap, v = .slice ao s.length cap ∧ s.length ≤ cap ∧ cap ≤ maxLen ∧ RowP w ao s
theorem SlP.below {w w' : World} {v : Value} {s : List Pc} (h : SlP w v s) (hb : Below w.heap.size w w') : SlP w' v s := by
  obtain ⟨ao, cap, e, h1, h2, h3⟩ := h
  exact ⟨ao, cap, e, h1, h2, h3.below hb⟩
def totP : List Pc → Nat
  | [] => 0
  | x :: s => szPc x + totP s
theorem totP_append (s r : List Pc) : totP (s ++ r) = totP s + totP r := by
  induction s with
  | nil => simp [totP]
  | cons x s ih => simp [totP, ih]; omega
theorem totP_succ {s : List Pc} {k : Nat} (h : k < s.length) : totP (s.take (k + 1)) = totP (s.take k) + szPc s[k] := by
  rw [List.take_succ_eq_append_getElem h, totP_append]; simp [totP]
theorem totP_mem {s : List Pc} {x : Pc} (h : x ∈ s) : szPc x ≤ totP s := by
  induction s with
  | nil => simp at h
  | cons y s ih =>
    rcases List.mem_cons.1 h with rfl | h
    · simp [totP]
    · have := ih h; simp [totP]; omega
def FitP (s : List Pc) : Prop := ∀ x ∈ s, FitPc x
end Go.Proofs.Ytkedckmpjedjoaa

/- How much a program holds: the laws' szPrg.. -/
namespace Go.Proofs.Ytkedckmpjedjoaa
open Go.RowKit
set_option linter.unusedVariables false
set_option linter.unusedSimpArgs false

theorem szGl_any (x : Gl) (v0 v1 v2 v3 : Value) (l : Int) (w : World) (hv : GlV w x v0 v1 v2 v3) (hF : FitGl x) (h0 : 0 ≤ l) (h1 : l ≤ 1048576) :
    Calls Try.prog 166 #[.agg #[v0, v1, v2, v3], .int .i64 l] w fun e w' => ∃ r : Int, e = .returned (.int .i64 r) ∧ (r < 0 ∨ (0 ≤ r ∧ r + szGl x ≤ l)) ∧ Below w.heap.size w w' := by
  obtain ⟨rfl, ⟨xa, xc, rfl, a1, a2, hA⟩, ⟨ya, yc, rfl, b1, b2, hB⟩, ⟨za, zc, rfl, c1, c2, hC⟩⟩ := hv
  refine (szPrgGoal_any x.k xa ya za xc yc zc x.a x.b x.c l w (Nat.le_trans a1 a2) (Nat.le_trans b1 b2) (Nat.le_trans c1 c2) hA hB hC hF.1.1 hF.2.1.1 hF.2.2.1 h0 h1).mono ?_
  rintro e w' ⟨r, rfl, hr, hb⟩
  exact ⟨r, rfl, by unfold szGl; omega, hb⟩

set_option maxRecDepth 100000 in
set_option maxHeartbeats 1000000 in
theorem szGS_some (b off cap : Nat) (s : List Gl) (l : Int) (w : World) (hm : s.length ≤ maxLen) (hA : AtG w b off s) (hF : FitG s) (h0 : 0 ≤ l) (h1 : l ≤ 1048576) :
    Calls Try.prog 139 #[.slice (some ⟨b, off, none⟩) s.length cap, .int .i64 l] w fun e w' => ∃ r : Int, e = .returned (.int .i64 r) ∧ (r < 0 ∨ (0 ≤ r ∧ r + s.length + totG s ≤ l)) ∧ Below w.heap.size w w' := by
  unfold maxLen at hm
  by_cases h : l - s.length < 0
  · go_enter Try.func139, Try.ntmps139
    go_wp2
    go_ret
    exact ⟨_, rfl, by omega, Below.refl _ _⟩
  · go_enter Try.func139, Try.ntmps139
    go_wp2
    go_loopw [1, 5] (fun m i wr => ∃ (k : Nat) (x : Int), k ≤ s.length ∧ i = .int .i64 k ∧ m = .int .i64 x ∧ 0 ≤ x ∧ x + s.length + totG (s.take k) ≤ l ∧ Below w.heap.size w wr) (fun _ i _ => s.length - (intOf i).toNat)
    case atStart => exact ⟨0, _, Nat.zero_le _, rfl, rfl, by omega, by simp [totG], Below.refl _ _⟩
    case round =>
      obtain ⟨k, x, hk, rfl, rfl, hx0, hx1, hB⟩ := hrel
      have HX := hide hx1
      have hxl : x ≤ 1048576 := by omega
      clear hx1
      by_cases hlt : k < s.length
      · obtain ⟨v0, v1, v2, v3, c0, c1, c2, c3, hv⟩ := (hA.below hB) k hlt
        have hf := (hF _ (List.getElem_mem hlt))
        have HT := hide (totG_succ hlt)
        have H := hide (szGl_any _ v0 v1 v2 v3 x wr hv hf hx0 hxl)
        clear hv hf
        go_wp2_with fail
        refine (unhide H).mono ?_
        rintro e w1 ⟨r, rfl, hr, hb1⟩
        clear c0 c1 c2 c3 H
        have HR := hide hr
        clear hr
        by_cases hr : r < 0
        · go_wp2
          go_ret
          exact ⟨_, rfl, by omega, bstep hB hb1⟩
        · go_wp2
          go_roundw
          case rel =>
            refine ⟨k + 1, r, by omega, by go_num, rfl, by omega, ?_, bstep hB hb1⟩
            have := unhide HR
            have := unhide HX
            rw [unhide HT]
            omega
          case measure => simp [intOf]; omega
      · go_wp2
        go_ret
        refine ⟨_, rfl, .inr ⟨hx0, ?_⟩, hB⟩
        have := unhide HX
        rw [List.take_of_length_le (by omega)] at this
        exact this

set_option maxRecDepth 100000 in
set_option maxHeartbeats 400000 in
theorem szGS_none (ao : Option Addr) (cap : Nat) (l : Int) (w : World) (h0 : 0 ≤ l) (h1 : l ≤ 1048576) :
    Calls Try.prog 139 #[.slice ao 0 cap, .int .i64 l] w fun e w' => ∃ r : Int, e = .returned (.int .i64 r) ∧ (r < 0 ∨ (0 ≤ r ∧ r + (0 : Nat) + totG [] ≤ l)) ∧ Below w.heap.size w w' := by
  go_enter Try.func139, Try.ntmps139
  go_wp2
  refine wp_loop_rounds 1 ?_
  rw [rounds_succ]
  go_wp2
  go_ret
  exact ⟨_, rfl, .inr ⟨h0, by simp [totG]⟩, Below.refl _ _⟩
theorem szGS_any (v : Value) (s : List Gl) (l : Int) (w : World) (hA : SlG w v s) (hF : FitG s) (h0 : 0 ≤ l) (h1 : l ≤ 1048576) :
    Calls Try.prog 139 #[v, .int .i64 l] w fun e w' => ∃ r : Int, e = .returned (.int .i64 r) ∧ (r < 0 ∨ (0 ≤ r ∧ r + s.length + totG s ≤ l)) ∧ Below w.heap.size w w' := by
  obtain ⟨ao, cap, rfl, h2, h3, hA⟩ := hA
  rcases hA with rfl | ⟨b, off, rfl, hA⟩
  · exact szGS_none ao cap l w h0 h1
  · exact szGS_some b off cap s l w (Nat.le_trans h2 h3) hA hF h0 h1

theorem szSlC_any (v : Value) (t : List C) (l : Int) (w : World) (hA : SlC w v t) (hF : Fit t) (h0 : 0 ≤ l) (h1 : l ≤ 1048576) :
    Calls Try.prog 16 #[v, .int .i64 l] w fun e w' => ∃ r : Int, e = .returned (.int .i64 r) ∧ (r < 0 ∨ (0 ≤ r ∧ r + t.length ≤ l)) ∧ Below w.heap.size w w' := by
  obtain ⟨ao, cap, rfl, h2, h3, hA⟩ := hA
  exact szTrmCellS_any ao cap t l w (Nat.le_trans h2 h3) hA hF h0 h1
theorem two_new (w : World) (x0 x1 : Value) (T : TypeId) : Below w.heap.size w (w.alloc (.cells #[x0, x1] T)) ∧ (w.alloc (.cells #[x0, x1] T)).cell? ⟨w.heap.size, 0, none⟩ = some x0 ∧ (w.alloc (.cells #[x0, x1] T)).cell? ⟨w.heap.size, 1, none⟩ = some x1 := by
  have hb : (w.alloc (.cells #[x0, x1] T)).heap[w.heap.size]? = some (.cells #[x0, x1] T) := World.alloc_heap_new w _
  refine ⟨cell_below _ _, ?_, ?_⟩ <;> (simp only [World.cell?]; rw [hb]; rfl)

set_option maxRecDepth 100000 in
set_option maxHeartbeats 1000000 in
theorem szCl_any (x : Cl) (v0 v1 : Value) (l : Int) (w : World) (hv : ClV w x v0 v1) (hF : FitCl x) (h0 : 0 ≤ l) (h1 : l ≤ 1048576) :
    Calls Try.prog 96 #[.agg #[v0, v1], .int .i64 l] w fun e w' => ∃ r : Int, e = .returned (.int .i64 r) ∧ (r < 0 ∨ (0 ≤ r ∧ r + szCl x ≤ l)) ∧ Below w.heap.size w w' := by
  obtain ⟨hb0, d0, d1⟩ := two_new w v0 v1 135
  obtain ⟨xa, xc, rfl, q1, q2, hA⟩ := hv.1
  obtain ⟨ya, yc, rfl, q3, q4, hB⟩ := hv.2
  have H1 := hide (fun (W : World) (hW : Below w.heap.size w W) (l : Int) (h0 : 0 ≤ l) (h1 : l ≤ 1048576) => szSlC_any _ _ l W (hv.1.below hW) hF.1.1 h0 h1)
  have H2 := hide (fun (W : World) (hW : Below w.heap.size w W) (l : Int) (h0 : 0 ≤ l) (h1 : l ≤ 1048576) => szGS_any _ _ l W (hv.2.below hW) hF.2 h0 h1)
  clear hv hF hA hB q1 q2 q3 q4
  go_enter Try.func96, Try.ntmps96
  go_wp2_with fail
  generalize w.alloc (.cells #[_, _] 135) = w0 at hb0 d0 d1 ⊢
  have hl0 : w.heap.size < w0.heap.size := World.block_lt_of_cell? w0 ⟨_, _, none⟩ d1
  refine (unhide H1 w0 hb0 l h0 h1).mono ?_
  rintro e w1 ⟨r, rfl, hr, hb1⟩
  have e1 := (hb1.cell (p := ⟨w.heap.size, 1, none⟩) hl0).trans d1
  have hB1 := bstep hb0 hb1
  by_cases hn : r < 0
  · go_wp2
    go_ret
    exact ⟨_, rfl, by omega, hB1⟩
  go_wp2_with fail
  refine (unhide H2 w1 hB1 r (by omega) (by omega)).mono ?_
  rintro e w2 ⟨r2, rfl, hr2, hb2⟩
  have hB2 := bstep hB1 hb2
  by_cases hn2 : r2 < 0
  · go_wp2
    go_ret
    exact ⟨_, rfl, by omega, hB2⟩
  go_wp2
  go_ret
  exact ⟨_, rfl, .inr ⟨by omega, by unfold szCl; omega⟩, hB2⟩

set_option maxRecDepth 100000 in
set_option maxHeartbeats 1000000 in
theorem szKS_some (b off cap : Nat) (s : List Cl) (l : Int) (w : World) (hm : s.length ≤ maxLen) (hA : AtK w b off s) (hF : FitK s) (h0 : 0 ≤ l) (h1 : l ≤ 1048576) :
    Calls Try.prog 41 #[.slice (some ⟨b, off, none⟩) s.length cap, .int .i64 l] w fun e w' => ∃ r : Int, e = .returned (.int .i64 r) ∧ (r < 0 ∨ (0 ≤ r ∧ r + s.length + totK s ≤ l)) ∧ Below w.heap.size w w' := by
  unfold maxLen at hm
  by_cases h : l - s.length < 0
  · go_enter Try.func41, Try.ntmps41
    go_wp2
    go_ret
    exact ⟨_, rfl, by omega, Below.refl _ _⟩
  · go_enter Try.func41, Try.ntmps41
    go_wp2
    go_loopw [1, 5] (fun m i wr => ∃ (k : Nat) (x : Int), k ≤ s.length ∧ i = .int .i64 k ∧ m = .int .i64 x ∧ 0 ≤ x ∧ x + s.length + totK (s.take k) ≤ l ∧ Below w.heap.size w wr) (fun _ i _ => s.length - (intOf i).toNat)
    case atStart => exact ⟨0, _, Nat.zero_le _, rfl, rfl, by omega, by simp [totK], Below.refl _ _⟩
    case round =>
      obtain ⟨k, x, hk, rfl, rfl, hx0, hx1, hB⟩ := hrel
      have HX := hide hx1
      have hxl : x ≤ 1048576 := by omega
      clear hx1
      by_cases hlt : k < s.length
      · obtain ⟨v0, v1, c0, c1, hv⟩ := (hA.below hB) k hlt
        have hf := (hF _ (List.getElem_mem hlt))
        have HT := hide (totK_succ hlt)
        have H := hide (szCl_any _ v0 v1 x wr hv hf hx0 hxl)
        clear hv hf
        go_wp2_with fail
        refine (unhide H).mono ?_
        rintro e w1 ⟨r, rfl, hr, hb1⟩
        clear c0 c1 H
        have HR := hide hr
        clear hr
        by_cases hr : r < 0
        · go_wp2
          go_ret
          exact ⟨_, rfl, by omega, bstep hB hb1⟩
        · go_wp2
          go_roundw
          case rel =>
            refine ⟨k + 1, r, by omega, by go_num, rfl, by omega, ?_, bstep hB hb1⟩
            have := unhide HR
            have := unhide HX
            rw [unhide HT]
            omega
          case measure => simp [intOf]; omega
      · go_wp2
        go_ret
        refine ⟨_, rfl, .inr ⟨hx0, ?_⟩, hB⟩
        have := unhide HX
        rw [List.take_of_length_le (by omega)] at this
        exact this

set_option maxRecDepth 100000 in
set_option maxHeartbeats 400000 in
theorem szKS_none (ao : Option Addr) (cap : Nat) (l : Int) (w : World) (h0 : 0 ≤ l) (h1 : l ≤ 1048576) :
    Calls Try.prog 41 #[.slice ao 0 cap, .int .i64 l] w fun e w' => ∃ r : Int, e = .returned (.int .i64 r) ∧ (r < 0 ∨ (0 ≤ r ∧ r + (0 : Nat) + totK [] ≤ l)) ∧ Below w.heap.size w w' := by
  go_enter Try.func41, Try.ntmps41
  go_wp2
  refine wp_loop_rounds 1 ?_
  rw [rounds_succ]
  go_wp2
  go_ret
  exact ⟨_, rfl, .inr ⟨h0, by simp [totK]⟩, Below.refl _ _⟩
theorem szKS_any (v : Value) (s : List Cl) (l : Int) (w : World) (hA : SlK w v s) (hF : FitK s) (h0 : 0 ≤ l) (h1 : l ≤ 1048576) :
    Calls Try.prog 41 #[v, .int .i64 l] w fun e w' => ∃ r : Int, e = .returned (.int .i64 r) ∧ (r < 0 ∨ (0 ≤ r ∧ r + s.length + totK s ≤ l)) ∧ Below w.heap.size w w' := by
  obtain ⟨ao, cap, rfl, h2, h3, hA⟩ := hA
  rcases hA with rfl | ⟨b, off, rfl, hA⟩
  · exact szKS_none ao cap l w h0 h1
  · exact szKS_some b off cap s l w (Nat.le_trans h2 h3) hA hF h0 h1

set_option maxRecDepth 100000 in
set_option maxHeartbeats 1000000 in
theorem szPc_any (x : Pc) (v0 v1 v2 : Value) (l : Int) (w : World) (hv : PcV w x v0 v1 v2) (hF : FitPc x) (h0 : 0 ≤ l) (h1 : l ≤ 1048576) :
    Calls Try.prog 97 #[.agg #[v0, v1, v2], .int .i64 l] w fun e w' => ∃ r : Int, e = .returned (.int .i64 r) ∧ (r < 0 ∨ (0 ≤ r ∧ r + szPc x ≤ l)) ∧ Below w.heap.size w w' := by
  obtain ⟨rfl, rfl, rfl⟩ := hv
  have hs := hF.1
  unfold maxLen at hs
  unfold szPc
  clear hF
  by_cases hn : l - x.s.size < 0
  · go_enter Try.func97, Try.ntmps97
    go_wp2
    go_ret
    exact ⟨_, rfl, by omega, cell_below _ _⟩
  · go_enter Try.func97, Try.ntmps97
    go_wp2
    go_ret
    exact ⟨_, rfl, by omega, cell_below _ _⟩

set_option maxRecDepth 100000 in
set_option maxHeartbeats 1000000 in
theorem szPS_some (b off cap : Nat) (s : List Pc) (l : Int) (w : World) (hm : s.length ≤ maxLen) (hA : AtP w b off s) (hF : FitP s) (h0 : 0 ≤ l) (h1 : l ≤ 1048576) :
    Calls Try.prog 42 #[.slice (some ⟨b, off, none⟩) s.length cap, .int .i64 l] w fun e w' => ∃ r : Int, e = .returned (.int .i64 r) ∧ (r < 0 ∨ (0 ≤ r ∧ r + s.length + totP s ≤ l)) ∧ Below w.heap.size w w' := by
  unfold maxLen at hm
  by_cases h : l - s.length < 0
  · go_enter Try.func42, Try.ntmps42
    go_wp2
    go_ret
    exact ⟨_, rfl, by omega, Below.refl _ _⟩
  · go_enter Try.func42, Try.ntmps42
    go_wp2
    go_loopw [1, 5] (fun m i wr => ∃ (k : Nat) (x : Int), k ≤ s.length ∧ i = .int .i64 k ∧ m = .int .i64 x ∧ 0 ≤ x ∧ x + s.length + totP (s.take k) ≤ l ∧ Below w.heap.size w wr) (fun _ i _ => s.length - (intOf i).toNat)
    case atStart => exact ⟨0, _, Nat.zero_le _, rfl, rfl, by omega, by simp [totP], Below.refl _ _⟩
    case round =>
      obtain ⟨k, x, hk, rfl, rfl, hx0, hx1, hB⟩ := hrel
      have HX := hide hx1
      have hxl : x ≤ 1048576 := by omega
      clear hx1
      by_cases hlt : k < s.length
      · obtain ⟨v0, v1, v2, c0, c1, c2, hv⟩ := (hA.below hB) k hlt
        have hf := (hF _ (List.getElem_mem hlt))
        have HT := hide (totP_succ hlt)
        have H := hide (szPc_any _ v0 v1 v2 x wr hv hf hx0 hxl)
        clear hv hf
        go_wp2_with fail
        refine (unhide H).mono ?_
        rintro e w1 ⟨r, rfl, hr, hb1⟩
        clear c0 c1 c2 H
        have HR := hide hr
        clear hr
        by_cases hr : r < 0
        · go_wp2
          go_ret
          exact ⟨_, rfl, by omega, bstep hB hb1⟩
        · go_wp2
          go_roundw
          case rel =>
            refine ⟨k + 1, r, by omega, by go_num, rfl, by omega, ?_, bstep hB hb1⟩
            have := unhide HR
            have := unhide HX
            rw [unhide HT]
            omega
          case measure => simp [intOf]; omega
      · go_wp2
        go_ret
        refine ⟨_, rfl, .inr ⟨hx0, ?_⟩, hB⟩
        have := unhide HX
        rw [List.take_of_length_le (by omega)] at this
        exact this

set_option maxRecDepth 100000 in
set_option maxHeartbeats 400000 in
theorem szPS_none (ao : Option Addr) (cap : Nat) (l : Int) (w : World) (h0 : 0 ≤ l) (h1 : l ≤ 1048576) :
    Calls Try.prog 42 #[.slice ao 0 cap, .int .i64 l] w fun e w' => ∃ r : Int, e = .returned (.int .i64 r) ∧ (r < 0 ∨ (0 ≤ r ∧ r + (0 : Nat) + totP [] ≤ l)) ∧ Below w.heap.size w w' := by
  go_enter Try.func42, Try.ntmps42
  go_wp2
  refine wp_loop_rounds 1 ?_
  rw [rounds_succ]
  go_wp2
  go_ret
  exact ⟨_, rfl, .inr ⟨h0, by simp [totP]⟩, Below.refl _ _⟩
theorem szPS_any (v : Value) (s : List Pc) (l : Int) (w : World) (hA : SlP w v s) (hF : FitP s) (h0 : 0 ≤ l) (h1 : l ≤ 1048576) :
    Calls Try.prog 42 #[v, .int .i64 l] w fun e w' => ∃ r : Int, e = .returned (.int .i64 r) ∧ (r < 0 ∨ (0 ≤ r ∧ r + s.length + totP s ≤ l)) ∧ Below w.heap.size w w' := by
  obtain ⟨ao, cap, rfl, h2, h3, hA⟩ := hA
  rcases hA with rfl | ⟨b, off, rfl, hA⟩
  · exact szPS_none ao cap l w h0 h1
  · exact szPS_some b off cap s l w (Nat.le_trans h2 h3) hA hF h0 h1

/-- A program, in memory. -/
structure Pg where
  cs : List Cl
  ps : List Pc
def PgV (w : World) (x : Pg) (v0 v1 : Value) : Prop := SlK w v0 x.cs ∧ SlP w v1 x.ps
theorem PgV.below {w w' : World} {x : Pg} {v0 v1 : Value} (h : PgV w x v0 v1) (hb : Below w.heap.size w w') : PgV w' x v0 v1 := ⟨h.1.below hb, h.2.below hb⟩
def szPg (x : Pg) : Nat := (x.cs.length + totK x.cs) + (x.ps.length + totP x.ps)
def FitPg (x : Pg) : Prop := FitK x.cs ∧ FitP x.ps

set_option maxRecDepth 100000 in
set_option maxHeartbeats 1000000 in
theorem szPg_any (x : Pg) (v0 v1 : Value) (l : Int) (w : World) (hv : PgV w x v0 v1) (hF : FitPg x) (h0 : 0 ≤ l) (h1 : l ≤ 1048576) :
    Calls Try.prog 9 #[.agg #[v0, v1], .int .i64 l] w fun e w' => ∃ r : Int, e = .returned (.int .i64 r) ∧ (r < 0 ∨ (0 ≤ r ∧ r + szPg x ≤ l)) ∧ Below w.heap.size w w' := by
  obtain ⟨hb0, d0, d1⟩ := two_new w v0 v1 25
  obtain ⟨xa, xc, rfl, q1, q2, hA⟩ := hv.1
  obtain ⟨ya, yc, rfl, q3, q4, hB⟩ := hv.2
  have H1 := hide (fun (W : World) (hW : Below w.heap.size w W) (l : Int) (h0 : 0 ≤ l) (h1 : l ≤ 1048576) => szKS_any _ _ l W (hv.1.below hW) hF.1 h0 h1)
  have H2 := hide (fun (W : World) (hW : Below w.heap.size w W) (l : Int) (h0 : 0 ≤ l) (h1 : l ≤ 1048576) => szPS_any _ _ l W (hv.2.below hW) hF.2 h0 h1)
  clear hv hF hA hB q1 q2 q3 q4
  go_enter Try.func9, Try.ntmps9
  go_wp2_with fail
  generalize w.alloc (.cells #[_, _] 25) = w0 at hb0 d0 d1 ⊢
  have hl0 : w.heap.size < w0.heap.size := World.block_lt_of_cell? w0 ⟨_, _, none⟩ d1
  refine (unhide H1 w0 hb0 l h0 h1).mono ?_
  rintro e w1 ⟨r, rfl, hr, hb1⟩
  have e1 := (hb1.cell (p := ⟨w.heap.size, 1, none⟩) hl0).trans d1
  have hB1 := bstep hb0 hb1
  by_cases hn : r < 0
  · go_wp2
    go_ret
    exact ⟨_, rfl, by omega, hB1⟩
  go_wp2_with fail
  refine (unhide H2 w1 hB1 r (by omega) (by omega)).mono ?_
  rintro e w2 ⟨r2, rfl, hr2, hb2⟩
  have hB2 := bstep hB1 hb2
  by_cases hn2 : r2 < 0
  · go_wp2
    go_ret
    exact ⟨_, rfl, by omega, hB2⟩
  go_wp2
  go_ret
  exact ⟨_, rfl, .inr ⟨by omega, by unfold szPg; omega⟩, hB2⟩
end Go.Proofs.Ytkedckmpjedjoaa
