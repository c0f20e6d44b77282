/- Goals' texts: GoalText of the specification. -/
import Derived.Test.YtajkmebjmdolaaaDoorQUG1
import Derived.Test.YtajkmebjmdolaaaDoorQG2
namespace Go.Proofs.YtajkmebjmdolaaaDoor
open Go.RowKit Go.Shelf
set_option linter.unusedVariables false
set_option linter.unusedSimpArgs false

set_option maxRecDepth 100000 in
set_option maxHeartbeats 4000000 in
theorem specGoalText_call (xa ya za : Option Addr) (xc yc zc : Nat) (a b c : List C) (w : World) (h : Trip w xa ya za a b c) (hg : goalB 1 a b c = true) :
    Calls Tryd.prog 6 #[.agg #[.int .i64 1, .slice xa a.length xc, .slice ya b.length yc, .slice za c.length zc]] w fun e w' => e = .returned (.string (gX 1 a b c)) ∧ Below w.heap.size w w' := by
  have HX : gX 1 a b c = textT a := by unfold gX; rw [hg]; rfl
  rw [HX]
  have HO := hide (fun (W : World) (hW : Below w.heap.size w W) => specGoalOk_any 1 xa ya za xc yc zc a b c W (h.below hW))
  have Ka := hide (fun (W : World) (hW : Below w.heap.size w W) => specTrmText_any xa xc a W (Nat.le_trans h.la (by unfold maxLen; decide)) ((h.below hW).ra) h.fa)
  have hla := h.la
  have hlb := h.lb
  have hlc := h.lc
  rw [hg] at HO
  clear h hg HX
  generalize textT a = u at Ka ⊢
  obtain ⟨hb0, d1, d2, d3⟩ := four_new w (.int .i64 1) (.slice xa a.length xc) (.slice ya b.length yc) (.slice za c.length zc) 29
  have d0 : (w.alloc (.cells #[.int .i64 1, .slice xa a.length xc, .slice ya b.length yc, .slice za c.length zc] 29)).cell? ⟨w.heap.size, 0, none⟩ = some (.int .i64 1) := by
    have hb := World.alloc_heap_new w (.cells #[.int .i64 1, .slice xa a.length xc, .slice ya b.length yc, .slice za c.length zc] 29)
    simp only [World.cell?]; rw [hb]; rfl
  go_enter Tryd.func6, Tryd.ntmps6
  go_wp2_with fail
  generalize w.alloc (.cells #[.int .i64 1, .slice xa a.length xc, .slice ya b.length yc, .slice za c.length zc] 29) = w0 at hb0 d0 d1 d2 d3 ⊢
  have hl0 : w.heap.size < w0.heap.size := World.block_lt_of_cell? w0 ⟨_, _, none⟩ d1
  refine (unhide HO w0 hb0).mono ?_
  rintro e w1 ⟨rfl, hb1⟩
  replace d0 := (hb1.cell (p := ⟨w.heap.size, 0, none⟩) hl0).trans d0
  replace d1 := (hb1.cell (p := ⟨w.heap.size, 1, none⟩) hl0).trans d1
  replace d2 := (hb1.cell (p := ⟨w.heap.size, 2, none⟩) hl0).trans d2
  replace d3 := (hb1.cell (p := ⟨w.heap.size, 3, none⟩) hl0).trans d3
  replace hl0 : w.heap.size < w1.heap.size := World.block_lt_of_cell? w1 ⟨_, _, none⟩ d1
  have hB1 := bstep hb0 hb1
  clear HO hb0 hb1
  go_wp2_with fail
  refine (unhide Ka _ hB1).mono ?_
  rintro e w2 ⟨rfl, hb2⟩
  go_wp2
  go_ret
  exact ⟨rfl, bstep hB1 hb2⟩

set_option maxRecDepth 100000 in
set_option maxHeartbeats 4000000 in
theorem specGoalText_same (xa ya za : Option Addr) (xc yc zc : Nat) (a b c : List C) (w : World) (h : Trip w xa ya za a b c) (hg : goalB 2 a b c = true) :
    Calls Tryd.prog 6 #[.agg #[.int .i64 2, .slice xa a.length xc, .slice ya b.length yc, .slice za c.length zc]] w fun e w' => e = .returned (.string (gX 2 a b c)) ∧ Below w.heap.size w w' := by
  have HX : gX 2 a b c = textT a ++ ({ data := #[32, 61, 32] } : ByteArray) ++ textT b := by unfold gX; rw [hg]; rfl
  rw [HX]
  have HO := hide (fun (W : World) (hW : Below w.heap.size w W) => specGoalOk_any 2 xa ya za xc yc zc a b c W (h.below hW))
  have Ka := hide (fun (W : World) (hW : Below w.heap.size w W) => specTrmText_any xa xc a W (Nat.le_trans h.la (by unfold maxLen; decide)) ((h.below hW).ra) h.fa)
  have Kb := hide (fun (W : World) (hW : Below w.heap.size w W) => specTrmText_any ya yc b W (Nat.le_trans h.lb (by unfold maxLen; decide)) ((h.below hW).rb) h.fb)
  have hsz : (textT a).size ≤ 132 ∧ (textT b).size ≤ 132 := by
    simp only [goalB] at hg
    simp at hg
    exact ⟨textT_size hg.1.1, textT_size hg.1.2⟩
  have hla := h.la
  have hlb := h.lb
  have hlc := h.lc
  rw [hg] at HO
  clear h hg HX
  generalize textT a = u at Ka hsz ⊢
  generalize textT b = v at Kb hsz ⊢
  have z1 : ({ data := #[32, 61, 32] } : ByteArray).size = 3 := rfl
  have c1 : ¬ (u.size + 3 > 9223372036854775807) := by omega
  have c2 : ¬ (u.size + 3 + v.size > 9223372036854775807) := by omega
  clear hsz z1
  obtain ⟨hb0, d1, d2, d3⟩ := four_new w (.int .i64 2) (.slice xa a.length xc) (.slice ya b.length yc) (.slice za c.length zc) 29
  have d0 : (w.alloc (.cells #[.int .i64 2, .slice xa a.length xc, .slice ya b.length yc, .slice za c.length zc] 29)).cell? ⟨w.heap.size, 0, none⟩ = some (.int .i64 2) := by
    have hb := World.alloc_heap_new w (.cells #[.int .i64 2, .slice xa a.length xc, .slice ya b.length yc, .slice za c.length zc] 29)
    simp only [World.cell?]; rw [hb]; rfl
  go_enter Tryd.func6, Tryd.ntmps6
  go_wp2_with fail
  generalize w.alloc (.cells #[.int .i64 2, .slice xa a.length xc, .slice ya b.length yc, .slice za c.length zc] 29) = w0 at hb0 d0 d1 d2 d3 ⊢
  have hl0 : w.heap.size < w0.heap.size := World.block_lt_of_cell? w0 ⟨_, _, none⟩ d1
  refine (unhide HO w0 hb0).mono ?_
  rintro e w1 ⟨rfl, hb1⟩
  replace d0 := (hb1.cell (p := ⟨w.heap.size, 0, none⟩) hl0).trans d0
  replace d1 := (hb1.cell (p := ⟨w.heap.size, 1, none⟩) hl0).trans d1
  replace d2 := (hb1.cell (p := ⟨w.heap.size, 2, none⟩) hl0).trans d2
  replace d3 := (hb1.cell (p := ⟨w.heap.size, 3, none⟩) hl0).trans d3
  replace hl0 : w.heap.size < w1.heap.size := World.block_lt_of_cell? w1 ⟨_, _, none⟩ d1
  have hB1 := bstep hb0 hb1
  clear HO hb0 hb1
  go_wp2_with fail
  go_region_held3 (fun w' => w'.cell? ⟨w.heap.size, 1, none⟩ = some (.slice xa a.length xc) ∧ w'.cell? ⟨w.heap.size, 2, none⟩ = some (.slice ya b.length yc)) (first | (refine ⟨?_, ?_⟩ <;> assumption) | go_keep) (first
    | (go_at_call 19; have hx := hb11; refine (unhide Kb w11 (by exact hB11)).mono ?_; rintro e w12 ⟨rfl, hb12⟩; have f1 := (hb12.cell (p := ⟨w.heap.size, 1, none⟩) hl1).trans e1; have f2 := (hb12.cell (p := ⟨w.heap.size, 2, none⟩) hl1).trans e2; have hl2 : w.heap.size < w12.heap.size := World.block_lt_of_cell? w12 ⟨_, _, none⟩ f1; have hB12 := bstep hB11 hb12)
    | (go_at_call 19; refine (unhide Ka w1.drew (by exact hB1.drew)).mono ?_; rintro e w11 ⟨rfl, hb11⟩; have e1 := (hb11.cell (p := ⟨w.heap.size, 1, none⟩) hl0).trans d1; have e2 := (hb11.cell (p := ⟨w.heap.size, 2, none⟩) hl0).trans d2; have hl1 : w.heap.size < w11.heap.size := World.block_lt_of_cell? w11 ⟨_, _, none⟩ e1; have hB11 := bstep hB1.drew hb11))
  go_wp2
  go_ret
  exact ⟨rfl, hB12⟩

set_option maxRecDepth 100000 in
set_option maxHeartbeats 4000000 in
theorem specGoalText_cut (xa ya za : Option Addr) (xc yc zc : Nat) (a b c : List C) (w : World) (h : Trip w xa ya za a b c) (hg : goalB 3 a b c = true) :
    Calls Tryd.prog 6 #[.agg #[.int .i64 3, .slice xa a.length xc, .slice ya b.length yc, .slice za c.length zc]] w fun e w' => e = .returned (.string (gX 3 a b c)) ∧ Below w.heap.size w w' := by
  have HX : gX 3 a b c = ({ data := #[33] } : ByteArray) := by unfold gX; rw [hg]; rfl
  rw [HX]
  have HO := hide (fun (W : World) (hW : Below w.heap.size w W) => specGoalOk_any 3 xa ya za xc yc zc a b c W (h.below hW))
  have hla := h.la
  have hlb := h.lb
  have hlc := h.lc
  rw [hg] at HO
  clear h hg HX
  obtain ⟨hb0, d1, d2, d3⟩ := four_new w (.int .i64 3) (.slice xa a.length xc) (.slice ya b.length yc) (.slice za c.length zc) 29
  have d0 : (w.alloc (.cells #[.int .i64 3, .slice xa a.length xc, .slice ya b.length yc, .slice za c.length zc] 29)).cell? ⟨w.heap.size, 0, none⟩ = some (.int .i64 3) := by
    have hb := World.alloc_heap_new w (.cells #[.int .i64 3, .slice xa a.length xc, .slice ya b.length yc, .slice za c.length zc] 29)
    simp only [World.cell?]; rw [hb]; rfl
  go_enter Tryd.func6, Tryd.ntmps6
  go_wp2_with fail
  generalize w.alloc (.cells #[.int .i64 3, .slice xa a.length xc, .slice ya b.length yc, .slice za c.length zc] 29) = w0 at hb0 d0 d1 d2 d3 ⊢
  have hl0 : w.heap.size < w0.heap.size := World.block_lt_of_cell? w0 ⟨_, _, none⟩ d1
  refine (unhide HO w0 hb0).mono ?_
  rintro e w1 ⟨rfl, hb1⟩
  replace d0 := (hb1.cell (p := ⟨w.heap.size, 0, none⟩) hl0).trans d0
  replace d1 := (hb1.cell (p := ⟨w.heap.size, 1, none⟩) hl0).trans d1
  replace d2 := (hb1.cell (p := ⟨w.heap.size, 2, none⟩) hl0).trans d2
  replace d3 := (hb1.cell (p := ⟨w.heap.size, 3, none⟩) hl0).trans d3
  replace hl0 : w.heap.size < w1.heap.size := World.block_lt_of_cell? w1 ⟨_, _, none⟩ d1
  have hB1 := bstep hb0 hb1
  clear HO hb0 hb1
  go_wp2
  go_ret
  exact ⟨rfl, hB1⟩

set_option maxRecDepth 100000 in
set_option maxHeartbeats 4000000 in
theorem specGoalText_less (xa ya za : Option Addr) (xc yc zc : Nat) (a b c : List C) (w : World) (h : Trip w xa ya za a b c) (hg : goalB 4 a b c = true) :
    Calls Tryd.prog 6 #[.agg #[.int .i64 4, .slice xa a.length xc, .slice ya b.length yc, .slice za c.length zc]] w fun e w' => e = .returned (.string (gX 4 a b c)) ∧ Below w.heap.size w w' := by
  have HX : gX 4 a b c = textT a ++ ({ data := #[32, 60, 32] } : ByteArray) ++ textT b := by unfold gX; rw [hg]; rfl
  rw [HX]
  have HO := hide (fun (W : World) (hW : Below w.heap.size w W) => specGoalOk_any 4 xa ya za xc yc zc a b c W (h.below hW))
  have Ka := hide (fun (W : World) (hW : Below w.heap.size w W) => specTrmText_any xa xc a W (Nat.le_trans h.la (by unfold maxLen; decide)) ((h.below hW).ra) h.fa)
  have Kb := hide (fun (W : World) (hW : Below w.heap.size w W) => specTrmText_any ya yc b W (Nat.le_trans h.lb (by unfold maxLen; decide)) ((h.below hW).rb) h.fb)
  have hsz : (textT a).size ≤ 132 ∧ (textT b).size ≤ 132 := by
    simp only [goalB] at hg
    simp at hg
    exact ⟨textT_size hg.1.1, textT_size hg.1.2⟩
  have hla := h.la
  have hlb := h.lb
  have hlc := h.lc
  rw [hg] at HO
  clear h hg HX
  generalize textT a = u at Ka hsz ⊢
  generalize textT b = v at Kb hsz ⊢
  have z1 : ({ data := #[32, 60, 32] } : ByteArray).size = 3 := rfl
  have c1 : ¬ (u.size + 3 > 9223372036854775807) := by omega
  have c2 : ¬ (u.size + 3 + v.size > 9223372036854775807) := by omega
  clear hsz z1
  obtain ⟨hb0, d1, d2, d3⟩ := four_new w (.int .i64 4) (.slice xa a.length xc) (.slice ya b.length yc) (.slice za c.length zc) 29
  have d0 : (w.alloc (.cells #[.int .i64 4, .slice xa a.length xc, .slice ya b.length yc, .slice za c.length zc] 29)).cell? ⟨w.heap.size, 0, none⟩ = some (.int .i64 4) := by
    have hb := World.alloc_heap_new w (.cells #[.int .i64 4, .slice xa a.length xc, .slice ya b.length yc, .slice za c.length zc] 29)
    simp only [World.cell?]; rw [hb]; rfl
  go_enter Tryd.func6, Tryd.ntmps6
  go_wp2_with fail
  generalize w.alloc (.cells #[.int .i64 4, .slice xa a.length xc, .slice ya b.length yc, .slice za c.length zc] 29) = w0 at hb0 d0 d1 d2 d3 ⊢
  have hl0 : w.heap.size < w0.heap.size := World.block_lt_of_cell? w0 ⟨_, _, none⟩ d1
  refine (unhide HO w0 hb0).mono ?_
  rintro e w1 ⟨rfl, hb1⟩
  replace d0 := (hb1.cell (p := ⟨w.heap.size, 0, none⟩) hl0).trans d0
  replace d1 := (hb1.cell (p := ⟨w.heap.size, 1, none⟩) hl0).trans d1
  replace d2 := (hb1.cell (p := ⟨w.heap.size, 2, none⟩) hl0).trans d2
  replace d3 := (hb1.cell (p := ⟨w.heap.size, 3, none⟩) hl0).trans d3
  replace hl0 : w.heap.size < w1.heap.size := World.block_lt_of_cell? w1 ⟨_, _, none⟩ d1
  have hB1 := bstep hb0 hb1
  clear HO hb0 hb1
  go_wp2_with fail
  go_region_held3 (fun w' => w'.cell? ⟨w.heap.size, 1, none⟩ = some (.slice xa a.length xc) ∧ w'.cell? ⟨w.heap.size, 2, none⟩ = some (.slice ya b.length yc)) (first | (refine ⟨?_, ?_⟩ <;> assumption) | go_keep) (first
    | (go_at_call 19; have hx := hb11; refine (unhide Kb w11 (by exact hB11)).mono ?_; rintro e w12 ⟨rfl, hb12⟩; have f1 := (hb12.cell (p := ⟨w.heap.size, 1, none⟩) hl1).trans e1; have f2 := (hb12.cell (p := ⟨w.heap.size, 2, none⟩) hl1).trans e2; have hl2 : w.heap.size < w12.heap.size := World.block_lt_of_cell? w12 ⟨_, _, none⟩ f1; have hB12 := bstep hB11 hb12)
    | (go_at_call 19; refine (unhide Ka w1.drew (by exact hB1.drew)).mono ?_; rintro e w11 ⟨rfl, hb11⟩; have e1 := (hb11.cell (p := ⟨w.heap.size, 1, none⟩) hl0).trans d1; have e2 := (hb11.cell (p := ⟨w.heap.size, 2, none⟩) hl0).trans d2; have hl1 : w.heap.size < w11.heap.size := World.block_lt_of_cell? w11 ⟨_, _, none⟩ e1; have hB11 := bstep hB1.drew hb11))
  go_wp2
  go_ret
  exact ⟨rfl, hB12⟩

set_option maxRecDepth 100000 in
set_option maxHeartbeats 4000000 in
theorem specGoalText_plus (xa ya za : Option Addr) (xc yc zc : Nat) (a b c : List C) (w : World) (h : Trip w xa ya za a b c) (hg : goalB 5 a b c = true) :
    Calls Tryd.prog 6 #[.agg #[.int .i64 5, .slice xa a.length xc, .slice ya b.length yc, .slice za c.length zc]] w fun e w' => e = .returned (.string (gX 5 a b c)) ∧ Below w.heap.size w w' := by
  have HX : gX 5 a b c = textT a ++ ({ data := #[32, 43, 32] } : ByteArray) ++ textT b ++ ({ data := #[32, 61, 32] } : ByteArray) ++ textT c := by unfold gX; rw [hg]; rfl
  rw [HX]
  have HO := hide (fun (W : World) (hW : Below w.heap.size w W) => specGoalOk_any 5 xa ya za xc yc zc a b c W (h.below hW))
  have Ka := hide (fun (W : World) (hW : Below w.heap.size w W) => specTrmText_any xa xc a W (Nat.le_trans h.la (by unfold maxLen; decide)) ((h.below hW).ra) h.fa)
  have Kb := hide (fun (W : World) (hW : Below w.heap.size w W) => specTrmText_any ya yc b W (Nat.le_trans h.lb (by unfold maxLen; decide)) ((h.below hW).rb) h.fb)
  have Kc := hide (fun (W : World) (hW : Below w.heap.size w W) => specTrmText_any za zc c W (Nat.le_trans h.lc (by unfold maxLen; decide)) ((h.below hW).rc) h.fc)
  have hsz : (textT a).size ≤ 132 ∧ (textT b).size ≤ 132 ∧ (textT c).size ≤ 132 := by
    simp only [goalB] at hg
    simp at hg
    exact ⟨textT_size hg.1.1, textT_size hg.1.2, textT_size hg.2⟩
  have hla := h.la
  have hlb := h.lb
  have hlc := h.lc
  rw [hg] at HO
  clear h hg HX
  generalize textT a = u at Ka hsz ⊢
  generalize textT b = v at Kb hsz ⊢
  generalize textT c = x at Kc hsz ⊢
  have z1 : ({ data := #[32, 43, 32] } : ByteArray).size = 3 := rfl
  have c1 : ¬ (u.size + 3 > 9223372036854775807) := by omega
  have c2 : ¬ (u.size + 3 + v.size > 9223372036854775807) := by omega
  have z2 : ({ data := #[32, 61, 32] } : ByteArray).size = 3 := rfl
  have c3 : ¬ (u.size + 3 + v.size + 3 > 9223372036854775807) := by omega
  have c4 : ¬ (u.size + 3 + v.size + 3 + x.size > 9223372036854775807) := by omega
  clear hsz z1 z2
  obtain ⟨hb0, d1, d2, d3⟩ := four_new w (.int .i64 5) (.slice xa a.length xc) (.slice ya b.length yc) (.slice za c.length zc) 29
  have d0 : (w.alloc (.cells #[.int .i64 5, .slice xa a.length xc, .slice ya b.length yc, .slice za c.length zc] 29)).cell? ⟨w.heap.size, 0, none⟩ = some (.int .i64 5) := by
    have hb := World.alloc_heap_new w (.cells #[.int .i64 5, .slice xa a.length xc, .slice ya b.length yc, .slice za c.length zc] 29)
    simp only [World.cell?]; rw [hb]; rfl
  go_enter Tryd.func6, Tryd.ntmps6
  go_wp2_with fail
  generalize w.alloc (.cells #[.int .i64 5, .slice xa a.length xc, .slice ya b.length yc, .slice za c.length zc] 29) = w0 at hb0 d0 d1 d2 d3 ⊢
  have hl0 : w.heap.size < w0.heap.size := World.block_lt_of_cell? w0 ⟨_, _, none⟩ d1
  refine (unhide HO w0 hb0).mono ?_
  rintro e w1 ⟨rfl, hb1⟩
  replace d0 := (hb1.cell (p := ⟨w.heap.size, 0, none⟩) hl0).trans d0
  replace d1 := (hb1.cell (p := ⟨w.heap.size, 1, none⟩) hl0).trans d1
  replace d2 := (hb1.cell (p := ⟨w.heap.size, 2, none⟩) hl0).trans d2
  replace d3 := (hb1.cell (p := ⟨w.heap.size, 3, none⟩) hl0).trans d3
  replace hl0 : w.heap.size < w1.heap.size := World.block_lt_of_cell? w1 ⟨_, _, none⟩ d1
  have hB1 := bstep hb0 hb1
  clear HO hb0 hb1
  go_wp2_with fail
  go_region_held3 (fun w' => w'.cell? ⟨w.heap.size, 1, none⟩ = some (.slice xa a.length xc) ∧ w'.cell? ⟨w.heap.size, 2, none⟩ = some (.slice ya b.length yc) ∧ w'.cell? ⟨w.heap.size, 3, none⟩ = some (.slice za c.length zc)) (first | (refine ⟨?_, ?_, ?_⟩ <;> assumption) | go_keep) (first
    | (go_at_call 19; have hx := hb12; refine (unhide Kc w12 (by exact hB12)).mono ?_; rintro e w13 ⟨rfl, hb13⟩; have g1 := (hb13.cell (p := ⟨w.heap.size, 1, none⟩) hl2).trans f1; have g2 := (hb13.cell (p := ⟨w.heap.size, 2, none⟩) hl2).trans f2; have g3 := (hb13.cell (p := ⟨w.heap.size, 3, none⟩) hl2).trans f3; have hl3 : w.heap.size < w13.heap.size := World.block_lt_of_cell? w13 ⟨_, _, none⟩ g1; have hB13 := bstep hB12 hb13)
    | (go_at_call 19; have hx := hb11; refine (unhide Kb w11 (by exact hB11)).mono ?_; rintro e w12 ⟨rfl, hb12⟩; have f1 := (hb12.cell (p := ⟨w.heap.size, 1, none⟩) hl1).trans e1; have f2 := (hb12.cell (p := ⟨w.heap.size, 2, none⟩) hl1).trans e2; have f3 := (hb12.cell (p := ⟨w.heap.size, 3, none⟩) hl1).trans e3; have hl2 : w.heap.size < w12.heap.size := World.block_lt_of_cell? w12 ⟨_, _, none⟩ f1; have hB12 := bstep hB11 hb12)
    | (go_at_call 19; refine (unhide Ka w1.drew (by exact hB1.drew)).mono ?_; rintro e w11 ⟨rfl, hb11⟩; have e1 := (hb11.cell (p := ⟨w.heap.size, 1, none⟩) hl0).trans d1; have e2 := (hb11.cell (p := ⟨w.heap.size, 2, none⟩) hl0).trans d2; have e3 := (hb11.cell (p := ⟨w.heap.size, 3, none⟩) hl0).trans d3; have hl1 : w.heap.size < w11.heap.size := World.block_lt_of_cell? w11 ⟨_, _, none⟩ e1; have hB11 := bstep hB1.drew hb11))
  go_wp2
  go_ret
  exact ⟨rfl, hB13⟩

set_option maxRecDepth 100000 in
set_option maxHeartbeats 4000000 in
theorem specGoalText_no (k : Int) (xa ya za : Option Addr) (xc yc zc : Nat) (a b c : List C) (w : World) (h : Trip w xa ya za a b c) (hg : goalB k a b c = false) :
    Calls Tryd.prog 6 #[.agg #[.int .i64 k, .slice xa a.length xc, .slice ya b.length yc, .slice za c.length zc]] w fun e w' => e = .returned (.string (gX k a b c)) ∧ Below w.heap.size w w' := by
  have HE := hide (show gX k a b c = ByteArray.empty from by unfold gX; rw [hg]; rfl)
  have HO := hide (fun (W : World) (hW : Below w.heap.size w W) => specGoalOk_any k xa ya za xc yc zc a b c W (h.below hW))
  rw [hg] at HO
  clear h hg
  have hb0 := cell_below w (.cells #[.int .i64 k, .slice xa a.length xc, .slice ya b.length yc, .slice za c.length zc] 29)
  go_enter Tryd.func6, Tryd.ntmps6
  go_wp2_with fail
  refine (unhide HO _ hb0).mono ?_
  rintro e w1 ⟨rfl, hb1⟩
  have hB1 := bstep hb0 hb1
  clear HO hb0 hb1
  go_wp2
  go_ret
  exact ⟨by rw [unhide HE]; rfl, hB1⟩

theorem specGoalText_any (k : Int) (xa ya za : Option Addr) (xc yc zc : Nat) (a b c : List C) (w : World) (h : Trip w xa ya za a b c) :
    Calls Tryd.prog 6 #[.agg #[.int .i64 k, .slice xa a.length xc, .slice ya b.length yc, .slice za c.length zc]] w fun e w' => e = .returned (.string (gX k a b c)) ∧ Below w.heap.size w w' := by
  cases hg : goalB k a b c with
  | false => exact specGoalText_no k xa ya za xc yc zc a b c w h hg
  | true =>
    have hk : k = 1 ∨ k = 2 ∨ k = 3 ∨ k = 4 ∨ k = 5 := by
      by_cases hk : k = 1 ∨ k = 2 ∨ k = 3 ∨ k = 4 ∨ k = 5
      · exact hk
      · unfold goalB at hg
        rw [if_neg (by omega), if_neg (by omega), if_neg (by omega), if_neg (by omega)] at hg
        cases hg
    rcases hk with rfl | rfl | rfl | rfl | rfl
    · exact specGoalText_call xa ya za xc yc zc a b c w h hg
    · exact specGoalText_same xa ya za xc yc zc a b c w h hg
    · exact specGoalText_cut xa ya za xc yc zc a b c w h hg
    · exact specGoalText_less xa ya za xc yc zc a b c w h hg
    · exact specGoalText_plus xa ya za xc yc zc a b c w h hg
end Go.Proofs.YtajkmebjmdolaaaDoor
