/- How much a program holds: the laws' szPrg.. -/
import Derived.Test.YtpfoaleehdiahaaQQP1
namespace Go.Proofs.Ytpfoaleehdiahaa
open Go.RowKit
set_option linter.unusedVariables false
set_option linter.unusedSimpArgs false

theorem szGl_any (x : Gl) (v0 v1 v2 v3 : Value) (l : Int) (w : World) (hv : GlV w x v0 v1 v2 v3) (hF : FitGl x) (h0 : 0 ≤ l) (h1 : l ≤ 1048576) :
    Calls Try.prog 153 #[.agg #[v0, v1, v2, v3], .int .i64 l] w fun e w' => ∃ r : Int, e = .returned (.int .i64 r) ∧ (r < 0 ∨ (0 ≤ r ∧ r + szGl x ≤ l)) ∧ Below w.heap.size w w' := by
  obtain ⟨rfl, ⟨xa, xc, rfl, a1, a2, hA⟩, ⟨ya, yc, rfl, b1, b2, hB⟩, ⟨za, zc, rfl, c1, c2, hC⟩⟩ := hv
  refine (szPrgGoal_any x.k xa ya za xc yc zc x.a x.b x.c l w (Nat.le_trans a1 a2) (Nat.le_trans b1 b2) (Nat.le_trans c1 c2) hA hB hC hF.1.1 hF.2.1.1 hF.2.2.1 h0 h1).mono ?_
  rintro e w' ⟨r, rfl, hr, hb⟩
  exact ⟨r, rfl, by unfold szGl; omega, hb⟩

set_option maxRecDepth 100000 in
set_option maxHeartbeats 1000000 in
theorem szGS_some (b off cap : Nat) (s : List Gl) (l : Int) (w : World) (hm : s.length ≤ maxLen) (hA : AtG w b off s) (hF : FitG s) (h0 : 0 ≤ l) (h1 : l ≤ 1048576) :
    Calls Try.prog 132 #[.slice (some ⟨b, off, none⟩) s.length cap, .int .i64 l] w fun e w' => ∃ r : Int, e = .returned (.int .i64 r) ∧ (r < 0 ∨ (0 ≤ r ∧ r + s.length + totG s ≤ l)) ∧ Below w.heap.size w w' := by
  unfold maxLen at hm
  by_cases h : l - s.length < 0
  · go_enter Try.func132, Try.ntmps132
    go_wp2
    go_ret
    exact ⟨_, rfl, by omega, Below.refl _ _⟩
  · go_enter Try.func132, Try.ntmps132
    go_wp2
    go_loopw [1, 5] (fun m i wr => ∃ (k : Nat) (x : Int), k ≤ s.length ∧ i = .int .i64 k ∧ m = .int .i64 x ∧ 0 ≤ x ∧ x + s.length + totG (s.take k) ≤ l ∧ Below w.heap.size w wr) (fun _ i _ => s.length - (intOf i).toNat)
    case atStart => exact ⟨0, _, Nat.zero_le _, rfl, rfl, by omega, by simp [totG], Below.refl _ _⟩
    case round =>
      obtain ⟨k, x, hk, rfl, rfl, hx0, hx1, hB⟩ := hrel
      have HX := hide hx1
      have hxl : x ≤ 1048576 := by omega
      clear hx1
      by_cases hlt : k < s.length
      · obtain ⟨v0, v1, v2, v3, c0, c1, c2, c3, hv⟩ := (hA.below hB) k hlt
        have hf := (hF _ (List.getElem_mem hlt))
        have HT := hide (totG_succ hlt)
        have H := hide (szGl_any _ v0 v1 v2 v3 x wr hv hf hx0 hxl)
        clear hv hf
        go_wp2_with fail
        refine (unhide H).mono ?_
        rintro e w1 ⟨r, rfl, hr, hb1⟩
        clear c0 c1 c2 c3 H
        have HR := hide hr
        clear hr
        by_cases hr : r < 0
        · go_wp2
          go_ret
          exact ⟨_, rfl, by omega, bstep hB hb1⟩
        · go_wp2
          go_roundw
          case rel =>
            refine ⟨k + 1, r, by omega, by go_num, rfl, by omega, ?_, bstep hB hb1⟩
            have := unhide HR
            have := unhide HX
            rw [unhide HT]
            omega
          case measure => simp [intOf]; omega
      · go_wp2
        go_ret
        refine ⟨_, rfl, .inr ⟨hx0, ?_⟩, hB⟩
        have := unhide HX
        rw [List.take_of_length_le (by omega)] at this
        exact this

set_option maxRecDepth 100000 in
set_option maxHeartbeats 400000 in
theorem szGS_none (ao : Option Addr) (cap : Nat) (l : Int) (w : World) (h0 : 0 ≤ l) (h1 : l ≤ 1048576) :
    Calls Try.prog 132 #[.slice ao 0 cap, .int .i64 l] w fun e w' => ∃ r : Int, e = .returned (.int .i64 r) ∧ (r < 0 ∨ (0 ≤ r ∧ r + (0 : Nat) + totG [] ≤ l)) ∧ Below w.heap.size w w' := by
  go_enter Try.func132, Try.ntmps132
  go_wp2
  refine wp_loop_rounds 1 ?_
  rw [rounds_succ]
  go_wp2
  go_ret
  exact ⟨_, rfl, .inr ⟨h0, by simp [totG]⟩, Below.refl _ _⟩
theorem szGS_any (v : Value) (s : List Gl) (l : Int) (w : World) (hA : SlG w v s) (hF : FitG s) (h0 : 0 ≤ l) (h1 : l ≤ 1048576) :
    Calls Try.prog 132 #[v, .int .i64 l] w fun e w' => ∃ r : Int, e = .returned (.int .i64 r) ∧ (r < 0 ∨ (0 ≤ r ∧ r + s.length + totG s ≤ l)) ∧ Below w.heap.size w w' := by
  obtain ⟨ao, cap, rfl, h2, h3, hA⟩ := hA
  rcases hA with rfl | ⟨b, off, rfl, hA⟩
  · exact szGS_none ao cap l w h0 h1
  · exact szGS_some b off cap s l w (Nat.le_trans h2 h3) hA hF h0 h1

theorem szSlC_any (v : Value) (t : List C) (l : Int) (w : World) (hA : SlC w v t) (hF : Fit t) (h0 : 0 ≤ l) (h1 : l ≤ 1048576) :
    Calls Try.prog 10 #[v, .int .i64 l] w fun e w' => ∃ r : Int, e = .returned (.int .i64 r) ∧ (r < 0 ∨ (0 ≤ r ∧ r + t.length ≤ l)) ∧ Below w.heap.size w w' := by
  obtain ⟨ao, cap, rfl, h2, h3, hA⟩ := hA
  exact szTrmCellS_any ao cap t l w (Nat.le_trans h2 h3) hA hF h0 h1
theorem two_new (w : World) (x0 x1 : Value) (T : TypeId) : Below w.heap.size w (w.alloc (.cells #[x0, x1] T)) ∧ (w.alloc (.cells #[x0, x1] T)).cell? ⟨w.heap.size, 0, none⟩ = some x0 ∧ (w.alloc (.cells #[x0, x1] T)).cell? ⟨w.heap.size, 1, none⟩ = some x1 := by
  have hb : (w.alloc (.cells #[x0, x1] T)).heap[w.heap.size]? = some (.cells #[x0, x1] T) := World.alloc_heap_new w _
  refine ⟨cell_below _ _, ?_, ?_⟩ <;> (simp only [World.cell?]; rw [hb]; rfl)

set_option maxRecDepth 100000 in
set_option maxHeartbeats 1000000 in
theorem szCl_any (x : Cl) (v0 v1 : Value) (l : Int) (w : World) (hv : ClV w x v0 v1) (hF : FitCl x) (h0 : 0 ≤ l) (h1 : l ≤ 1048576) :
    Calls Try.prog 93 #[.agg #[v0, v1], .int .i64 l] w fun e w' => ∃ r : Int, e = .returned (.int .i64 r) ∧ (r < 0 ∨ (0 ≤ r ∧ r + szCl x ≤ l)) ∧ Below w.heap.size w w' := by
  obtain ⟨hb0, d0, d1⟩ := two_new w v0 v1 134
  obtain ⟨xa, xc, rfl, q1, q2, hA⟩ := hv.1
  obtain ⟨ya, yc, rfl, q3, q4, hB⟩ := hv.2
  have H1 := hide (fun (W : World) (hW : Below w.heap.size w W) (l : Int) (h0 : 0 ≤ l) (h1 : l ≤ 1048576) => szSlC_any _ _ l W (hv.1.below hW) hF.1.1 h0 h1)
  have H2 := hide (fun (W : World) (hW : Below w.heap.size w W) (l : Int) (h0 : 0 ≤ l) (h1 : l ≤ 1048576) => szGS_any _ _ l W (hv.2.below hW) hF.2 h0 h1)
  clear hv hF hA hB q1 q2 q3 q4
  go_enter Try.func93, Try.ntmps93
  go_wp2_with fail
  generalize w.alloc (.cells #[_, _] 134) = w0 at hb0 d0 d1 ⊢
  have hl0 : w.heap.size < w0.heap.size := World.block_lt_of_cell? w0 ⟨_, _, none⟩ d1
  refine (unhide H1 w0 hb0 l h0 h1).mono ?_
  rintro e w1 ⟨r, rfl, hr, hb1⟩
  have e1 := (hb1.cell (p := ⟨w.heap.size, 1, none⟩) hl0).trans d1
  have hB1 := bstep hb0 hb1
  by_cases hn : r < 0
  · go_wp2
    go_ret
    exact ⟨_, rfl, by omega, hB1⟩
  go_wp2_with fail
  refine (unhide H2 w1 hB1 r (by omega) (by omega)).mono ?_
  rintro e w2 ⟨r2, rfl, hr2, hb2⟩
  have hB2 := bstep hB1 hb2
  by_cases hn2 : r2 < 0
  · go_wp2
    go_ret
    exact ⟨_, rfl, by omega, hB2⟩
  go_wp2
  go_ret
  exact ⟨_, rfl, .inr ⟨by omega, by unfold szCl; omega⟩, hB2⟩

set_option maxRecDepth 100000 in
set_option maxHeartbeats 1000000 in
theorem szKS_some (b off cap : Nat) (s : List Cl) (l : Int) (w : World) (hm : s.length ≤ maxLen) (hA : AtK w b off s) (hF : FitK s) (h0 : 0 ≤ l) (h1 : l ≤ 1048576) :
    Calls Try.prog 39 #[.slice (some ⟨b, off, none⟩) s.length cap, .int .i64 l] w fun e w' => ∃ r : Int, e = .returned (.int .i64 r) ∧ (r < 0 ∨ (0 ≤ r ∧ r + s.length + totK s ≤ l)) ∧ Below w.heap.size w w' := by
  unfold maxLen at hm
  by_cases h : l - s.length < 0
  · go_enter Try.func39, Try.ntmps39
    go_wp2
    go_ret
    exact ⟨_, rfl, by omega, Below.refl _ _⟩
  · go_enter Try.func39, Try.ntmps39
    go_wp2
    go_loopw [1, 5] (fun m i wr => ∃ (k : Nat) (x : Int), k ≤ s.length ∧ i = .int .i64 k ∧ m = .int .i64 x ∧ 0 ≤ x ∧ x + s.length + totK (s.take k) ≤ l ∧ Below w.heap.size w wr) (fun _ i _ => s.length - (intOf i).toNat)
    case atStart => exact ⟨0, _, Nat.zero_le _, rfl, rfl, by omega, by simp [totK], Below.refl _ _⟩
    case round =>
      obtain ⟨k, x, hk, rfl, rfl, hx0, hx1, hB⟩ := hrel
      have HX := hide hx1
      have hxl : x ≤ 1048576 := by omega
      clear hx1
      by_cases hlt : k < s.length
      · obtain ⟨v0, v1, c0, c1, hv⟩ := (hA.below hB) k hlt
        have hf := (hF _ (List.getElem_mem hlt))
        have HT := hide (totK_succ hlt)
        have H := hide (szCl_any _ v0 v1 x wr hv hf hx0 hxl)
        clear hv hf
        go_wp2_with fail
        refine (unhide H).mono ?_
        rintro e w1 ⟨r, rfl, hr, hb1⟩
        clear c0 c1 H
        have HR := hide hr
        clear hr
        by_cases hr : r < 0
        · go_wp2
          go_ret
          exact ⟨_, rfl, by omega, bstep hB hb1⟩
        · go_wp2
          go_roundw
          case rel =>
            refine ⟨k + 1, r, by omega, by go_num, rfl, by omega, ?_, bstep hB hb1⟩
            have := unhide HR
            have := unhide HX
            rw [unhide HT]
            omega
          case measure => simp [intOf]; omega
      · go_wp2
        go_ret
        refine ⟨_, rfl, .inr ⟨hx0, ?_⟩, hB⟩
        have := unhide HX
        rw [List.take_of_length_le (by omega)] at this
        exact this

set_option maxRecDepth 100000 in
set_option maxHeartbeats 400000 in
theorem szKS_none (ao : Option Addr) (cap : Nat) (l : Int) (w : World) (h0 : 0 ≤ l) (h1 : l ≤ 1048576) :
    Calls Try.prog 39 #[.slice ao 0 cap, .int .i64 l] w fun e w' => ∃ r : Int, e = .returned (.int .i64 r) ∧ (r < 0 ∨ (0 ≤ r ∧ r + (0 : Nat) + totK [] ≤ l)) ∧ Below w.heap.size w w' := by
  go_enter Try.func39, Try.ntmps39
  go_wp2
  refine wp_loop_rounds 1 ?_
  rw [rounds_succ]
  go_wp2
  go_ret
  exact ⟨_, rfl, .inr ⟨h0, by simp [totK]⟩, Below.refl _ _⟩
theorem szKS_any (v : Value) (s : List Cl) (l : Int) (w : World) (hA : SlK w v s) (hF : FitK s) (h0 : 0 ≤ l) (h1 : l ≤ 1048576) :
    Calls Try.prog 39 #[v, .int .i64 l] w fun e w' => ∃ r : Int, e = .returned (.int .i64 r) ∧ (r < 0 ∨ (0 ≤ r ∧ r + s.length + totK s ≤ l)) ∧ Below w.heap.size w w' := by
  obtain ⟨ao, cap, rfl, h2, h3, hA⟩ := hA
  rcases hA with rfl | ⟨b, off, rfl, hA⟩
  · exact szKS_none ao cap l w h0 h1
  · exact szKS_some b off cap s l w (Nat.le_trans h2 h3) hA hF h0 h1

set_option maxRecDepth 100000 in
set_option maxHeartbeats 1000000 in
theorem szPc_any (x : Pc) (v0 v1 v2 : Value) (l : Int) (w : World) (hv : PcV w x v0 v1 v2) (hF : FitPc x) (h0 : 0 ≤ l) (h1 : l ≤ 1048576) :
    Calls Try.prog 94 #[.agg #[v0, v1, v2], .int .i64 l] w fun e w' => ∃ r : Int, e = .returned (.int .i64 r) ∧ (r < 0 ∨ (0 ≤ r ∧ r + szPc x ≤ l)) ∧ Below w.heap.size w w' := by
  obtain ⟨rfl, rfl, rfl⟩ := hv
  have hs := hF.1
  unfold maxLen at hs
  unfold szPc
  clear hF
  by_cases hn : l - x.s.size < 0
  · go_enter Try.func94, Try.ntmps94
    go_wp2
    go_ret
    exact ⟨_, rfl, by omega, cell_below _ _⟩
  · go_enter Try.func94, Try.ntmps94
    go_wp2
    go_ret
    exact ⟨_, rfl, by omega, cell_below _ _⟩

set_option maxRecDepth 100000 in
set_option maxHeartbeats 1000000 in
theorem szPS_some (b off cap : Nat) (s : List Pc) (l : Int) (w : World) (hm : s.length ≤ maxLen) (hA : AtP w b off s) (hF : FitP s) (h0 : 0 ≤ l) (h1 : l ≤ 1048576) :
    Calls Try.prog 40 #[.slice (some ⟨b, off, none⟩) s.length cap, .int .i64 l] w fun e w' => ∃ r : Int, e = .returned (.int .i64 r) ∧ (r < 0 ∨ (0 ≤ r ∧ r + s.length + totP s ≤ l)) ∧ Below w.heap.size w w' := by
  unfold maxLen at hm
  by_cases h : l - s.length < 0
  · go_enter Try.func40, Try.ntmps40
    go_wp2
    go_ret
    exact ⟨_, rfl, by omega, Below.refl _ _⟩
  · go_enter Try.func40, Try.ntmps40
    go_wp2
    go_loopw [1, 5] (fun m i wr => ∃ (k : Nat) (x : Int), k ≤ s.length ∧ i = .int .i64 k ∧ m = .int .i64 x ∧ 0 ≤ x ∧ x + s.length + totP (s.take k) ≤ l ∧ Below w.heap.size w wr) (fun _ i _ => s.length - (intOf i).toNat)
    case atStart => exact ⟨0, _, Nat.zero_le _, rfl, rfl, by omega, by simp [totP], Below.refl _ _⟩
    case round =>
      obtain ⟨k, x, hk, rfl, rfl, hx0, hx1, hB⟩ := hrel
      have HX := hide hx1
      have hxl : x ≤ 1048576 := by omega
      clear hx1
      by_cases hlt : k < s.length
      · obtain ⟨v0, v1, v2, c0, c1, c2, hv⟩ := (hA.below hB) k hlt
        have hf := (hF _ (List.getElem_mem hlt))
        have HT := hide (totP_succ hlt)
        have H := hide (szPc_any _ v0 v1 v2 x wr hv hf hx0 hxl)
        clear hv hf
        go_wp2_with fail
        refine (unhide H).mono ?_
        rintro e w1 ⟨r, rfl, hr, hb1⟩
        clear c0 c1 c2 H
        have HR := hide hr
        clear hr
        by_cases hr : r < 0
        · go_wp2
          go_ret
          exact ⟨_, rfl, by omega, bstep hB hb1⟩
        · go_wp2
          go_roundw
          case rel =>
            refine ⟨k + 1, r, by omega, by go_num, rfl, by omega, ?_, bstep hB hb1⟩
            have := unhide HR
            have := unhide HX
            rw [unhide HT]
            omega
          case measure => simp [intOf]; omega
      · go_wp2
        go_ret
        refine ⟨_, rfl, .inr ⟨hx0, ?_⟩, hB⟩
        have := unhide HX
        rw [List.take_of_length_le (by omega)] at this
        exact this

set_option maxRecDepth 100000 in
set_option maxHeartbeats 400000 in
theorem szPS_none (ao : Option Addr) (cap : Nat) (l : Int) (w : World) (h0 : 0 ≤ l) (h1 : l ≤ 1048576) :
    Calls Try.prog 40 #[.slice ao 0 cap, .int .i64 l] w fun e w' => ∃ r : Int, e = .returned (.int .i64 r) ∧ (r < 0 ∨ (0 ≤ r ∧ r + (0 : Nat) + totP [] ≤ l)) ∧ Below w.heap.size w w' := by
  go_enter Try.func40, Try.ntmps40
  go_wp2
  refine wp_loop_rounds 1 ?_
  rw [rounds_succ]
  go_wp2
  go_ret
  exact ⟨_, rfl, .inr ⟨h0, by simp [totP]⟩, Below.refl _ _⟩
theorem szPS_any (v : Value) (s : List Pc) (l : Int) (w : World) (hA : SlP w v s) (hF : FitP s) (h0 : 0 ≤ l) (h1 : l ≤ 1048576) :
    Calls Try.prog 40 #[v, .int .i64 l] w fun e w' => ∃ r : Int, e = .returned (.int .i64 r) ∧ (r < 0 ∨ (0 ≤ r ∧ r + s.length + totP s ≤ l)) ∧ Below w.heap.size w w' := by
  obtain ⟨ao, cap, rfl, h2, h3, hA⟩ := hA
  rcases hA with rfl | ⟨b, off, rfl, hA⟩
  · exact szPS_none ao cap l w h0 h1
  · exact szPS_some b off cap s l w (Nat.le_trans h2 h3) hA hF h0 h1

/-- A program, in memory. -/
structure Pg where
  cs : List Cl
  ps : List Pc
def PgV (w : World) (x : Pg) (v0 v1 : Value) : Prop := SlK w v0 x.cs ∧ SlP w v1 x.ps
theorem PgV.below {w w' : World} {x : Pg} {v0 v1 : Value} (h : PgV w x v0 v1) (hb : Below w.heap.size w w') : PgV w' x v0 v1 := ⟨h.1.below hb, h.2.below hb⟩
def szPg (x : Pg) : Nat := (x.cs.length + totK x.cs) + (x.ps.length + totP x.ps)
def FitPg (x : Pg) : Prop := FitK x.cs ∧ FitP x.ps

set_option maxRecDepth 100000 in
set_option maxHeartbeats 1000000 in
theorem szPg_any (x : Pg) (v0 v1 : Value) (l : Int) (w : World) (hv : PgV w x v0 v1) (hF : FitPg x) (h0 : 0 ≤ l) (h1 : l ≤ 1048576) :
    Calls Try.prog 9 #[.agg #[v0, v1], .int .i64 l] w fun e w' => ∃ r : Int, e = .returned (.int .i64 r) ∧ (r < 0 ∨ (0 ≤ r ∧ r + szPg x ≤ l)) ∧ Below w.heap.size w w' := by
  obtain ⟨hb0, d0, d1⟩ := two_new w v0 v1 25
  obtain ⟨xa, xc, rfl, q1, q2, hA⟩ := hv.1
  obtain ⟨ya, yc, rfl, q3, q4, hB⟩ := hv.2
  have H1 := hide (fun (W : World) (hW : Below w.heap.size w W) (l : Int) (h0 : 0 ≤ l) (h1 : l ≤ 1048576) => szKS_any _ _ l W (hv.1.below hW) hF.1 h0 h1)
  have H2 := hide (fun (W : World) (hW : Below w.heap.size w W) (l : Int) (h0 : 0 ≤ l) (h1 : l ≤ 1048576) => szPS_any _ _ l W (hv.2.below hW) hF.2 h0 h1)
  clear hv hF hA hB q1 q2 q3 q4
  go_enter Try.func9, Try.ntmps9
  go_wp2_with fail
  generalize w.alloc (.cells #[_, _] 25) = w0 at hb0 d0 d1 ⊢
  have hl0 : w.heap.size < w0.heap.size := World.block_lt_of_cell? w0 ⟨_, _, none⟩ d1
  refine (unhide H1 w0 hb0 l h0 h1).mono ?_
  rintro e w1 ⟨r, rfl, hr, hb1⟩
  have e1 := (hb1.cell (p := ⟨w.heap.size, 1, none⟩) hl0).trans d1
  have hB1 := bstep hb0 hb1
  by_cases hn : r < 0
  · go_wp2
    go_ret
    exact ⟨_, rfl, by omega, hB1⟩
  go_wp2_with fail
  refine (unhide H2 w1 hB1 r (by omega) (by omega)).mono ?_
  rintro e w2 ⟨r2, rfl, hr2, hb2⟩
  have hB2 := bstep hB1 hb2
  by_cases hn2 : r2 < 0
  · go_wp2
    go_ret
    exact ⟨_, rfl, by omega, hB2⟩
  go_wp2
  go_ret
  exact ⟨_, rfl, .inr ⟨by omega, by unfold szPg; omega⟩, hB2⟩
end Go.Proofs.Ytpfoaleehdiahaa
