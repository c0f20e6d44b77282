/- The laws' helpers over outcomes, the walk of FnExactOutOk. -/
import Derived.Test.YtonpahhcfgdeoaaQOK3
import Derived.Test.YtonpahhcfgdeoaaQSB3D1D2
import Derived.Test.YtonpahhcfgdeoaaQW5
import Derived.Test.YtonpahhcfgdeoaaQW2W3W4W6SB2
import Derived.Deep.RegionHeld3
namespace Go.Proofs.Ytonpahhcfgdeoaa
open Go.RowKit
set_option linter.unusedVariables false
set_option linter.unusedSimpArgs false

set_option maxHeartbeats 400000 in
theorem szSlvOut_any (v : Int) (ao : Option Addr) (cap : Nat) (t : List C) (l : Int) (w : World) (hm : t.length ≤ maxLen) (hA : Row w ao t) (hF : Fit t) (h0 : 0 ≤ l) (h1 : l ≤ 1048576) :
    Calls Try.prog 8 #[.agg #[.int .i64 v, .slice ao t.length cap], .int .i64 l] w fun e w' => ∃ r : Int, e = .returned (.int .i64 r) ∧ (r < 0 ∨ (0 ≤ r ∧ r + t.length ≤ l)) ∧ Below w.heap.size w w' := by
  go_enter Try.func8, Try.ntmps8
  go_wp2_with fail
  refine (szTrmCellS_any ao cap t l _ hm (hA.below (cell_below _ _)) hF h0 h1).mono ?_
  rintro e w1 ⟨r, rfl, hr, hb1⟩
  have hB := bstep (cell_below _ _) hb1
  by_cases hn : r < 0
  · go_wp2
    go_ret
    exact ⟨_, rfl, by omega, hB⟩
  · go_wp2
    go_ret
    exact ⟨_, rfl, by omega, hB⟩


set_option maxHeartbeats 400000 in
theorem toSlvOut_any (v : Int) (ao : Option Addr) (cap : Nat) (t : List C) (w : World) (hm : t.length ≤ 1048576) (hA : Row w ao t) :
    Calls Try.prog 11 #[.agg #[.int .i64 v, .slice ao t.length cap]] w fun e w' => ∃ g, e = .returned (.agg #[.int .i64 v, .slice (some ⟨g, 0, none⟩) t.length t.length]) ∧ g < w'.heap.size ∧ w'.ownsRow w.heap.size 67 3 (.slice (some ⟨g, 0, none⟩) t.length t.length) t.length (flat t) ∧ Below w.heap.size w w' := by
  go_enter Try.func11, Try.ntmps11
  go_wp2_with fail
  obtain ⟨W, hW⟩ : ∃ W, W = ((w.alloc (Obj.cells #[Value.int IntKind.i64 v, Value.slice ao t.length cap] 24)).alloc (Obj.cells #[Value.int IntKind.i64 0, Value.slice none 0 0] 31)).alloc (Obj.cells #[Value.int IntKind.i64 v, Value.slice none 0 0] 31) := ⟨_, rfl⟩
  have hB0 : Below w.heap.size w W := by rw [hW]; exact below3 _ _ _ _
  have hsz : W.heap.size = w.heap.size + 3 := by rw [hW]; simp
  have c0 : W.cell? ⟨w.heap.size + 1 + 1, 0, none⟩ = some (.int .i64 v) := by rw [hW]; simp [go_sem]
  have c1 : W.cell? ⟨w.heap.size + 1 + 1, 1, none⟩ = some (.slice none 0 0) := by rw [hW]; simp [go_sem]
  have f1 : W.frozen? ⟨w.heap.size + 1 + 1, 1, none⟩ = false := by rw [hW]; simp [go_sem]
  have c2 : W.cell? ⟨w.heap.size + 1, 0, none⟩ = some (.int .i64 0) := by rw [hW]; simp [go_sem]
  have c3 : W.cell? ⟨w.heap.size + 1, 1, none⟩ = some (.slice none 0 0) := by rw [hW]; simp [go_sem]
  have f2 : W.frozen? ⟨w.heap.size + 1, 0, none⟩ = false := by rw [hW]; simp [go_sem]
  have f3 : W.frozen? ⟨w.heap.size + 1, 1, none⟩ = false := by rw [hW]; simp [go_sem]
  rw [← hW]
  clear hW
  refine (toTrmCellS_any ao cap t W hm (hA.below hB0)).mono ?_
  rintro e w1 ⟨rfl, ho1, hb1⟩
  have d0 := (hb1.cell (p := ⟨w.heap.size + 1 + 1, 0, none⟩) (by simp; omega)).trans c0
  have d1 := (hb1.cell (p := ⟨w.heap.size + 1 + 1, 1, none⟩) (by simp; omega)).trans c1
  have d2 := (hb1.cell (p := ⟨w.heap.size + 1, 0, none⟩) (by simp; omega)).trans c2
  have d3 := (hb1.cell (p := ⟨w.heap.size + 1, 1, none⟩) (by simp; omega)).trans c3
  have g1 := (hb1.frozen (p := ⟨w.heap.size + 1 + 1, 1, none⟩) (by simp; omega)).trans f1
  have g2 := (hb1.frozen (p := ⟨w.heap.size + 1, 0, none⟩) (by simp; omega)).trans f2
  have g3 := (hb1.frozen (p := ⟨w.heap.size + 1, 1, none⟩) (by simp; omega)).trans f3
  have hb2 := bstep hB0 hb1
  have hgl := ho1.lt W.heap.size rfl
  clear c0 c1 f1 c2 c3 f2 f3
  go_wp2
  refine bodyPost_ret (v := .agg #[.int .i64 v, .slice (some ⟨W.heap.size, 0, none⟩) t.length t.length]) (by simp [results, Try.results11, go_sem, *]) rfl ⟨_, rfl, ?_, ?_, ?_⟩
  · simp; omega
  · refine own_lo (base := W.heap.size) (own_block ho1 (fun k e => ?_)) (fun k e => ?_)
    · have e' : W.heap.size = k := by simpa [Value.ownBlock] using e
      rw [Below.heap_setCell _ _ _ _ (by simp; omega), Below.heap_setCell _ _ _ _ (by simp; omega), Below.heap_setCell _ _ _ _ (by simp; omega)]
    · have e' : W.heap.size = k := by simpa [Value.ownBlock] using e
      omega
  · exact ((hb2.setCell (p := ⟨w.heap.size + 1 + 1, 1, none⟩) (by simp; omega) _).setCell (p := ⟨w.heap.size + 1, 0, none⟩) (by simp) _).setCell (p := ⟨w.heap.size + 1, 1, none⟩) (by simp) _

set_option maxRecDepth 100000 in
set_option maxHeartbeats 400000 in
theorem eqSlvOut_yes (v : Int) (ao bo : Option Addr) (cap cap' : Nat) (t : List C) (w : World) (hm : t.length ≤ maxLen) (hA : Row w ao t) (hU : Row w bo t) :
    Calls Try.prog 14 #[.agg #[.int .i64 v, .slice ao t.length cap], .agg #[.int .i64 v, .slice bo t.length cap']] w fun e w' => e = .returned (.bool true) ∧ Below w.heap.size w w' := by
  have hne : (v != v) = false := by simp
  go_enter Try.func14, Try.ntmps14
  go_wp2_with fail
  refine (eqTrmCellS_any ao bo cap cap' t t _ hm (hA.below (below2 _ _ _)) (hU.below (below2 _ _ _))).mono ?_
  rw [sameS_yes rfl]
  rintro e w1 ⟨rfl, hb1⟩
  have hB := bstep (below2 _ _ _) hb1
  go_wp2
  go_ret
  exact ⟨rfl, hB⟩



theorem out_own {w : World} {base g : Nat} {t : List C} (h : w.ownsRow base 67 3 (.slice (some ⟨g, 0, none⟩) t.length t.length) t.length (flat t)) (hF : Fit t) (hw : WfC t) (hl : t.length ≤ 1048576) : OutM w (some ⟨g, 0, none⟩) t.length t :=
  ⟨row_of_own h, hF, hw, hl, Nat.le_refl _, by unfold maxLen; omega⟩
theorem out_td {w : World} {base g : Nat} {t : List C} (h : w.ownsRow base 67 3 (.slice (some ⟨g, 0, none⟩) t.length t.length) t.length (flat t)) : trm t = true → TdT w (.slice (some ⟨g, 0, none⟩) t.length t.length) t :=
  fun ht => own_tdT (base := base) h (trm_len ht).1

set_option maxRecDepth 100000 in
set_option maxHeartbeats 4000000 in
theorem FnExactOutOk_walk (ao : Option Addr) (cap : Nat) (t : List C) (k : Int) (uo : Option Addr) (uc : Nat) (u : List C) (w : World) (hm : t.length ≤ maxLen) (hA : Row w ao t) (hF : Fit t) (hw : WfC t) (um : u.length ≤ maxLen) (uA : Row w uo u) (uF : Fit u) (uw : WfC u) :
    Calls Try.prog 3 #[.slice ao t.length cap, .agg #[.int .i64 k, .slice uo u.length uc]] w fun e w' => e = .returned (.bool true) ∧ Below w.heap.size w w' := by
  obtain ⟨r, hr⟩ := canB_all t u
  have HR := hide hr
  clear hr
  have hb0 := cell_below w (.cells #[.int .i64 k, .slice uo u.length uc] 24)
  have d0 : (w.alloc (.cells #[.int .i64 k, .slice uo u.length uc] 24)).cell? ⟨w.heap.size, 0, none⟩ = some (.int .i64 k) := by
    have hb := World.alloc_heap_new w (.cells #[.int .i64 k, .slice uo u.length uc] 24)
    simp only [World.cell?]; rw [hb]; rfl
  have d1 : (w.alloc (.cells #[.int .i64 k, .slice uo u.length uc] 24)).cell? ⟨w.heap.size, 1, none⟩ = some (.slice uo u.length uc) := by
    have hb := World.alloc_heap_new w (.cells #[.int .i64 k, .slice uo u.length uc] 24)
    simp only [World.cell?]; rw [hb]; rfl
  go_enter Try.func3, Try.ntmps3
  go_wp2_with fail
  generalize w.alloc (.cells #[.int .i64 k, .slice uo u.length uc] 24) = w0 at hb0 d0 d1 ⊢
  have hl0 : w.heap.size < w0.heap.size := World.block_lt_of_cell? w0 ⟨_, _, none⟩ d1
  refine (szTrmCellS_any ao cap t 1048576 _ hm (hA.below hb0) hF (by omega) (by omega)).mono ?_
  rintro e w1 ⟨r1, rfl, hr1, hb1⟩
  have hB1 := bstep hb0 hb1
  replace d0 := (hb1.cell (p := ⟨w.heap.size, 0, none⟩) hl0).trans d0
  replace d1 := (hb1.cell (p := ⟨w.heap.size, 1, none⟩) hl0).trans d1
  replace hl0 : w.heap.size < w1.heap.size := World.block_lt_of_cell? w1 ⟨_, _, none⟩ d1
  by_cases hr0 : r1 < 0
  · go_wp2
    go_ret
    exact ⟨rfl, hB1⟩
  go_wp2_with fail
  refine (szSlvOut_any k uo uc u r1 _ um (uA.below hB1) uF (by omega) (by omega)).mono ?_
  rintro e w2 ⟨r2, rfl, hr2, hb2⟩
  have hB2 := bstep hB1 hb2
  replace d0 := (hb2.cell (p := ⟨w.heap.size, 0, none⟩) hl0).trans d0
  replace d1 := (hb2.cell (p := ⟨w.heap.size, 1, none⟩) hl0).trans d1
  replace hl0 : w.heap.size < w2.heap.size := World.block_lt_of_cell? w2 ⟨_, _, none⟩ d1
  by_cases hr3 : r2 < 0
  · go_wp2
    go_ret
    exact ⟨rfl, hB2⟩
  have tl : t.length ≤ 1048576 := by omega
  have ul : u.length ≤ 1048576 := by omega
  clear hr1 hr2 hb0 hb1 hb2 hB1
  have HT := hide (fun (W : World) (hW : Below w.heap.size w W) => toTrmCellS_any ao cap t W tl (hA.below hW))
  have HU := hide (fun (W : World) (hW : Below w.heap.size w W) => toSlvOut_any k uo uc u W ul (uA.below hW))
  have HTO := hide (fun (W : World) (base g : Nat) (h : W.ownsRow base 67 3 (.slice (some ⟨g, 0, none⟩) t.length t.length) t.length (flat t)) => out_own h hF hw tl)
  have HUO := hide (fun (W : World) (base g : Nat) (h : W.ownsRow base 67 3 (.slice (some ⟨g, 0, none⟩) u.length u.length) u.length (flat u)) => out_own h uF uw ul)
  clear hA uA hF uF hw uw
  go_wp2_with fail
  have hB2d := hB2.drew
  go_region_held3 (fun w' => w'.cell? ⟨w.heap.size, 0, none⟩ = some (.int .i64 k) ∧ w'.cell? ⟨w.heap.size, 1, none⟩ = some (.slice uo u.length uc)) (first | (refine ⟨?_, ?_⟩ <;> assumption) | go_keep) (first
    | (go_at_call 9; have hx := hb4; refine (specOutOk_any k _ _ _ _ t u r w4 (unhide HTO w4 _ _ (own_below ho3 hb4)) (unhide HUO w4 _ _ ho4) (out_td ho4) (unhide HR)).mono ?_; rintro e w5 ⟨rfl, hb5⟩; have g0 := (hb5.cell (p := ⟨w.heap.size, 0, none⟩) hl4).trans f0; have g1 := (hb5.cell (p := ⟨w.heap.size, 1, none⟩) hl4).trans f1; have hl5 : w.heap.size < w5.heap.size := World.block_lt_of_cell? w5 ⟨_, _, none⟩ g1; have hB5 := bstep hB4 hb5)
    | (go_at_call 11; have hx := hb3; refine (unhide HU w3 hB3).mono ?_; rintro e w4 ⟨gg, rfl, hgg, ho4, hb4⟩; have f0 := (hb4.cell (p := ⟨w.heap.size, 0, none⟩) hl3).trans e0; have f1 := (hb4.cell (p := ⟨w.heap.size, 1, none⟩) hl3).trans e1; have hl4 : w.heap.size < w4.heap.size := World.block_lt_of_cell? w4 ⟨_, _, none⟩ f1; have hB4 := bstep hB3 hb4)
    | (go_at_call 10; refine (unhide HT w2.drew hB2d).mono ?_; rintro e w3 ⟨rfl, ho3, hb3⟩; have e0 := (hb3.cell (p := ⟨w.heap.size, 0, none⟩) hl0).trans d0; have e1 := (hb3.cell (p := ⟨w.heap.size, 1, none⟩) hl0).trans d1; have hl3 : w.heap.size < w3.heap.size := World.block_lt_of_cell? w3 ⟨_, _, none⟩ e1; have hB3 := bstep hB2d hb3))
  clear d0 d1 e0 e1 f0 f1 hB2 hB2d hB3 hB4 hb3 hb4 hb5 hl0 hl3 hl4 ho3 ho4
  obtain ⟨B, hBe⟩ : ∃ B, B = outB k t u r := ⟨_, rfl⟩
  rw [← hBe]
  have HBB := hide hBe
  clear hBe
  go_wp2_with fail
  refine (unhide HT w5 hB5).mono ?_
  rintro e w6 ⟨rfl, ho6, hb6⟩
  replace g0 := (hb6.cell (p := ⟨w.heap.size, 0, none⟩) hl5).trans g0
  replace g1 := (hb6.cell (p := ⟨w.heap.size, 1, none⟩) hl5).trans g1
  have hl6 : w.heap.size < w6.heap.size := World.block_lt_of_cell? w6 ⟨_, _, none⟩ g1
  have hB6 := bstep hB5 hb6
  have h65 : w5.heap.size < w6.heap.size := (ho6.lt _ rfl).2
  generalize w5.heap.size = X at ho6 h65 ⊢
  clear hB5 hl5 hb6
  go_wp2_with fail
  refine (unhide HU w6 hB6).mono ?_
  rintro e w7 ⟨Y, rfl, hY, ho7, hb7⟩
  replace g0 := (hb7.cell (p := ⟨w.heap.size, 0, none⟩) hl6).trans g0
  replace g1 := (hb7.cell (p := ⟨w.heap.size, 1, none⟩) hl6).trans g1
  replace ho6 := own_below ho6 hb7
  have hl7 : w.heap.size < w7.heap.size := World.block_lt_of_cell? w7 ⟨_, _, none⟩ g1
  have hB7 := bstep hB6 hb7
  clear hB6 hl6 hb7 hY h65
  go_wp2_with fail
  have x0 : (w7.alloc (.cells #[.int .i64 k, .slice (some ⟨Y, 0, none⟩) u.length u.length] 31)).cell? ⟨w7.heap.size, 0, none⟩ = some (.int .i64 k) := by
    have hb := World.alloc_heap_new w7 (.cells #[.int .i64 k, .slice (some ⟨Y, 0, none⟩) u.length u.length] 31)
    simp only [World.cell?]; rw [hb]; rfl
  have x1 : (w7.alloc (.cells #[.int .i64 k, .slice (some ⟨Y, 0, none⟩) u.length u.length] 31)).cell? ⟨w7.heap.size, 1, none⟩ = some (.slice (some ⟨Y, 0, none⟩) u.length u.length) := by
    have hb := World.alloc_heap_new w7 (.cells #[.int .i64 k, .slice (some ⟨Y, 0, none⟩) u.length u.length] 31)
    simp only [World.cell?]; rw [hb]; rfl
  have nb := cell_below w7 (.cells #[.int .i64 k, .slice (some ⟨Y, 0, none⟩) u.length u.length] 31)
  generalize w7.alloc (.cells #[.int .i64 k, .slice (some ⟨Y, 0, none⟩) u.length u.length] 31) = w8 at x0 x1 nb ⊢
  replace g0 := (nb.cell (p := ⟨w.heap.size, 0, none⟩) hl7).trans g0
  replace g1 := (nb.cell (p := ⟨w.heap.size, 1, none⟩) hl7).trans g1
  replace ho6 := own_below ho6 nb
  replace ho7 := own_below ho7 nb
  have hB8 := bstep hB7 nb
  have hl8 : w.heap.size < w8.heap.size := World.block_lt_of_cell? w8 ⟨_, _, none⟩ g1
  have hx8 : w7.heap.size < w8.heap.size := World.block_lt_of_cell? w8 ⟨_, _, none⟩ x1
  clear nb hB7 hl7
  generalize w7.heap.size = Q at x0 x1 hx8 ⊢
  refine (implOutOk_any k _ _ _ _ t u r w8 (unhide HTO w8 _ _ ho6) (unhide HUO w8 _ _ ho7) (unhide HR)).mono ?_
  rw [← unhide HBB]
  rintro e w9 ⟨rfl, hb9⟩
  replace g0 := (hb9.cell (p := ⟨w.heap.size, 0, none⟩) hl8).trans g0
  replace g1 := (hb9.cell (p := ⟨w.heap.size, 1, none⟩) hl8).trans g1
  replace x0 := (hb9.cell (p := ⟨Q, 0, none⟩) hx8).trans x0
  replace x1 := (hb9.cell (p := ⟨Q, 1, none⟩) hx8).trans x1
  replace ho6 := own_below ho6 hb9
  replace ho7 := own_below ho7 hb9
  have hB9 := bstep hB8 hb9
  have hl9 : w.heap.size < w9.heap.size := World.block_lt_of_cell? w9 ⟨_, _, none⟩ g1
  have hx9 : Q < w9.heap.size := World.block_lt_of_cell? w9 ⟨_, _, none⟩ x1
  clear hb9 hB8 hl8 hx8 HBB
  have hBB : (B != B) = false := by simp
  have HE1 := hide (fun (W W' : World) (hW : Below w9.heap.size w9 W) (g : Nat) (h : W.ownsRow w9.heap.size 67 3 (.slice (some ⟨g, 0, none⟩) t.length t.length) t.length (flat t)) => eqTrmCellS_any (some ⟨X, 0, none⟩) (some ⟨g, 0, none⟩) t.length t.length t t W hm (row_of_own (own_below ho6 hW)) (row_of_own h))
  simp only [sameS_yes] at HE1
  have HE2 := hide (fun (W : World) (hW : Below w9.heap.size w9 W) (b g : Nat) (h : W.ownsRow b 67 3 (.slice (some ⟨g, 0, none⟩) u.length u.length) u.length (flat u)) => eqSlvOut_yes k (some ⟨Y, 0, none⟩) (some ⟨g, 0, none⟩) u.length u.length u W um (row_of_own (own_below ho7 hW)) (row_of_own h))
  clear ho6 ho7 HTO HUO HR
  go_wp2_with fail
  refine (unhide HT w9 hB9).mono ?_
  rintro e wa ⟨rfl, hoa, hba⟩
  replace g0 := (hba.cell (p := ⟨w.heap.size, 0, none⟩) hl9).trans g0
  replace g1 := (hba.cell (p := ⟨w.heap.size, 1, none⟩) hl9).trans g1
  replace x0 := (hba.cell (p := ⟨Q, 0, none⟩) hx9).trans x0
  replace x1 := (hba.cell (p := ⟨Q, 1, none⟩) hx9).trans x1
  have hla : w.heap.size < wa.heap.size := World.block_lt_of_cell? wa ⟨_, _, none⟩ g1
  have hxa : Q < wa.heap.size := World.block_lt_of_cell? wa ⟨_, _, none⟩ x1
  have hBa := bstep hB9 hba
  have HE := hide (unhide HE1 wa wa hba _ hoa)
  clear HE1 HT hoa hl9 hx9
  go_wp2_with (go_at_call 13; refine (unhide HE).mono ?_; rintro e wb ⟨rfl, hbb⟩)
  replace g0 := (hbb.cell (p := ⟨w.heap.size, 0, none⟩) hla).trans g0
  replace g1 := (hbb.cell (p := ⟨w.heap.size, 1, none⟩) hla).trans g1
  replace x0 := (hbb.cell (p := ⟨Q, 0, none⟩) hxa).trans x0
  replace x1 := (hbb.cell (p := ⟨Q, 1, none⟩) hxa).trans x1
  have hlb : w.heap.size < wb.heap.size := World.block_lt_of_cell? wb ⟨_, _, none⟩ g1
  have hxb : Q < wb.heap.size := World.block_lt_of_cell? wb ⟨_, _, none⟩ x1
  have hBb := bstep hBa hbb
  have h9b : Below w9.heap.size w9 wb.drew := (bstep hba hbb).drew
  have hBd := hBb.drew
  clear HE hba hbb hla hxa hBa
  go_region_held3 (fun w' => w'.cell? ⟨w.heap.size, 0, none⟩ = some (.int .i64 k) ∧ w'.cell? ⟨w.heap.size, 1, none⟩ = some (.slice uo u.length uc) ∧ w'.cell? ⟨Q, 0, none⟩ = some (.int .i64 k) ∧ w'.cell? ⟨Q, 1, none⟩ = some (.slice (some ⟨Y, 0, none⟩) u.length u.length)) (first | (refine ⟨?_, ?_, ?_, ?_⟩ <;> assumption) | go_keep) (first
    | (go_at_call 14; have hx := hbc; refine (unhide HE2 wc (bstep h9b hbc) _ _ hoc).mono ?_; rintro e wd ⟨rfl, hbd⟩; have n0 := (hbd.cell (p := ⟨w.heap.size, 0, none⟩) hlc).trans m0; have n1 := (hbd.cell (p := ⟨w.heap.size, 1, none⟩) hlc).trans m1; have nx0 := (hbd.cell (p := ⟨Q, 0, none⟩) hxc).trans mx0; have nx1 := (hbd.cell (p := ⟨Q, 1, none⟩) hxc).trans mx1)
    | (go_at_call 11; refine (unhide HU wb.drew hBd).mono ?_; rintro e wc ⟨Z, rfl, hZ, hoc, hbc⟩; have m0 := (hbc.cell (p := ⟨w.heap.size, 0, none⟩) hlb).trans g0; have m1 := (hbc.cell (p := ⟨w.heap.size, 1, none⟩) hlb).trans g1; have mx0 := (hbc.cell (p := ⟨Q, 0, none⟩) hxb).trans x0; have mx1 := (hbc.cell (p := ⟨Q, 1, none⟩) hxb).trans x1; have hlc : w.heap.size < wc.heap.size := World.block_lt_of_cell? wc ⟨_, _, none⟩ m1; have hxc : Q < wc.heap.size := World.block_lt_of_cell? wc ⟨_, _, none⟩ mx1))
  go_wp2
  go_ret
  exact ⟨rfl, bstep (bstep hBd hbc) hbd⟩
end Go.Proofs.Ytonpahhcfgdeoaa
