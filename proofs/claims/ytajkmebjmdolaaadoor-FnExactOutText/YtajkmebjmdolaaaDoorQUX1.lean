/- Outcomes' texts: OutText of the program and of the specification; the walk of FnExactOutText. -/
import Derived.Test.YtajkmebjmdolaaaDoorQOK4PX1
import Derived.Test.YtajkmebjmdolaaaDoorQTX7TX8
namespace Go.Proofs.YtajkmebjmdolaaaDoor
open Go.RowKit
set_option linter.unusedVariables false
set_option linter.unusedSimpArgs false

def noneB : ByteArray := ⟨#[110, 111, 110, 101]⟩
def bigB : ByteArray := ⟨#[116, 111, 111, 32, 98, 105, 103]⟩
def wrongB : ByteArray := ⟨#[119, 114, 111, 110, 103]⟩
/-- An outcome's text. -/
def outX (k : Int) (t u : List C) (r : Bool) : ByteArray := if outB k t u r then (if k = 2 then textT u else if k = 3 then noneB else if k = 4 then bigB else wrongB) else ByteArray.empty
theorem outB_kind {k : Int} {t u : List C} {r : Bool} (h : outB k t u r = true) : k = 2 ∨ k = 3 ∨ k = 4 ∨ k = 5 := by
  unfold outB at h
  simp only [Bool.and_eq_true] at h
  obtain ⟨_, h⟩ := h
  split at h
  · omega
  · simp only [Bool.and_eq_true, decide_eq_true_eq] at h
    exact .inl h.1.1.1

theorem out_blk (w : World) (k : Int) (uo : Option Addr) (n ucap : Nat) (T : TypeId) : (w.alloc (.cells #[.int .i64 k, .slice uo n ucap] T)).heap[w.heap.size]? = some (.cells #[.int .i64 k, .slice uo n ucap] T (0, 0)) := World.alloc_heap_new w _

set_option maxRecDepth 100000 in
set_option maxHeartbeats 2000000 in
theorem implOutText_any (k : Int) (ao uo : Option Addr) (cap ucap : Nat) (t u : List C) (r : Bool) (w : World) (hT : OutM w ao cap t) (hU : OutM w uo ucap u) (hr : CanB t u r) (hTen : TenT w) :
    Calls Tryd.prog 15 #[.slice ao t.length cap, .agg #[.int .i64 k, .slice uo u.length ucap]] w fun e w' => e = .returned (.string (outX k t u r)) ∧ Below w.heap.size w w' := by
  obtain ⟨w0, hw0⟩ : ∃ w0, w0 = w.alloc (.cells #[.int .i64 k, .slice uo u.length ucap] 40) := ⟨_, rfl⟩
  have hb0 : Below w.heap.size w w0 := by rw [hw0]; exact cell_below _ _
  have hX : w0.heap[w.heap.size]? = some (.cells #[.int .i64 k, .slice uo u.length ucap] 40 (0, 0)) := by rw [hw0]; exact out_blk w k uo _ ucap _
  have HO := hide (implOutOk_any k ao uo cap ucap t u r w0 (hT.below hb0) (hU.below hb0) hr)
  have HX := hide (fun (W : World) (hW : Below w.heap.size w W) => implTrmText_any uo ucap u W hU.cap1 hU.cap2 (hU.below hW).row hU.fit (hTen.below hW))
  have d0 : w0.cell? ⟨w.heap.size, 0, none⟩ = some (.int .i64 k) := by simp only [World.cell?]; rw [hX]; rfl
  have d1 : w0.cell? ⟨w.heap.size, 1, none⟩ = some (.slice uo u.length ucap) := by simp only [World.cell?]; rw [hX]; rfl
  clear hT hU hr hTen
  rw [hw0] at d0 d1
  go_enter Tryd.func15, Tryd.ntmps15
  go_wp2_with fail
  rw [← hw0]
  rw [← hw0] at d0 d1
  clear hw0
  refine (unhide HO).mono ?_
  rintro e w1 ⟨rfl, hb1⟩
  have hB1 := bstep hb0 hb1
  have hX1 := (hb1.block w.heap.size (Array.getElem?_eq_some_iff.1 hX).1).trans hX
  have e0 : w1.cell? ⟨w.heap.size, 0, none⟩ = some (.int .i64 k) := by simp only [World.cell?]; rw [hX1]; rfl
  have e1 : w1.cell? ⟨w.heap.size, 1, none⟩ = some (.slice uo u.length ucap) := by simp only [World.cell?]; rw [hX1]; rfl
  clear HO hX hX1 hb0 hb1 d0 d1
  cases ho : outB k t u r with
  | false =>
    have HE := hide (show outX k t u r = ByteArray.empty from by unfold outX; rw [ho]; rfl)
    clear ho HX
    go_wp2
    go_ret
    exact ⟨by rw [unhide HE]; rfl, hB1⟩
  | true =>
    rcases outB_kind ho with rfl | rfl | rfl | rfl
    · have HE := hide (show outX 2 t u r = textT u from by unfold outX; rw [ho]; rfl)
      have H2 := hide (unhide HX w1 hB1)
      clear ho HX
      go_wp2_with fail
      refine (unhide H2).mono ?_
      rintro e w2 ⟨rfl, hb2⟩
      go_wp2
      go_ret
      exact ⟨by rw [unhide HE]; rfl, bstep hB1 hb2⟩
    · have HE := hide (show outX 3 t u r = noneB from by unfold outX; rw [ho]; rfl)
      clear ho HX
      go_wp2
      go_ret
      exact ⟨by rw [unhide HE]; rfl, hB1⟩
    · have HE := hide (show outX 4 t u r = bigB from by unfold outX; rw [ho]; rfl)
      clear ho HX
      go_wp2
      go_ret
      exact ⟨by rw [unhide HE]; rfl, hB1⟩
    · have HE := hide (show outX 5 t u r = wrongB from by unfold outX; rw [ho]; rfl)
      clear ho HX
      go_wp2
      go_ret
      exact ⟨by rw [unhide HE]; rfl, hB1⟩

set_option maxRecDepth 100000 in
set_option maxHeartbeats 2000000 in
theorem specOutText_any (k : Int) (ao uo : Option Addr) (cap ucap : Nat) (t u : List C) (r : Bool) (w : World) (hT : OutM w ao cap t) (hU : OutM w uo ucap u) (hTd : trm u = true → TdT w (.slice uo u.length ucap) u) (hr : CanB t u r) :
    Calls Tryd.prog 12 #[.slice ao t.length cap, .agg #[.int .i64 k, .slice uo u.length ucap]] w fun e w' => e = .returned (.string (outX k t u r)) ∧ Below w.heap.size w w' := by
  obtain ⟨w0, hw0⟩ : ∃ w0, w0 = w.alloc (.cells #[.int .i64 k, .slice uo u.length ucap] 40) := ⟨_, rfl⟩
  have hb0 : Below w.heap.size w w0 := by rw [hw0]; exact cell_below _ _
  have hX : w0.heap[w.heap.size]? = some (.cells #[.int .i64 k, .slice uo u.length ucap] 40 (0, 0)) := by rw [hw0]; exact out_blk w k uo _ ucap _
  have HO := hide (specOutOk_any k ao uo cap ucap t u r w0 (hT.below hb0) (hU.below hb0) (fun h => (hTd h).below hb0) hr)
  have HX := hide (fun (W : World) (hW : Below w.heap.size w W) => specTrmText_any uo ucap u W (Nat.le_trans hU.cap1 hU.cap2) (hU.below hW).row hU.fit)
  have d0 : w0.cell? ⟨w.heap.size, 0, none⟩ = some (.int .i64 k) := by simp only [World.cell?]; rw [hX]; rfl
  have d1 : w0.cell? ⟨w.heap.size, 1, none⟩ = some (.slice uo u.length ucap) := by simp only [World.cell?]; rw [hX]; rfl
  clear hT hU hr hTd
  rw [hw0] at d0 d1
  go_enter Tryd.func12, Tryd.ntmps12
  go_wp2_with fail
  rw [← hw0]
  rw [← hw0] at d0 d1
  clear hw0
  refine (unhide HO).mono ?_
  rintro e w1 ⟨rfl, hb1⟩
  have hB1 := bstep hb0 hb1
  have hX1 := (hb1.block w.heap.size (Array.getElem?_eq_some_iff.1 hX).1).trans hX
  have e0 : w1.cell? ⟨w.heap.size, 0, none⟩ = some (.int .i64 k) := by simp only [World.cell?]; rw [hX1]; rfl
  have e1 : w1.cell? ⟨w.heap.size, 1, none⟩ = some (.slice uo u.length ucap) := by simp only [World.cell?]; rw [hX1]; rfl
  have e2 : (w1.alloc (.cells #[.string { data := #[110, 111, 110, 101] }, .string { data := #[116, 111, 111, 32, 98, 105, 103] }, .string { data := #[119, 114, 111, 110, 103] }] 9)).cell? ⟨w.heap.size, 0, none⟩ = some (.int .i64 k) := ((cell_below w1 _).cell (p := ⟨w.heap.size, 0, none⟩) (World.block_lt_of_cell? w1 ⟨_, _, none⟩ e0)).trans e0
  clear HO hX hX1 hb0 hb1 d0 d1
  cases ho : outB k t u r with
  | false =>
    have HE := hide (show outX k t u r = ByteArray.empty from by unfold outX; rw [ho]; rfl)
    clear ho HX
    go_wp2
    go_ret
    exact ⟨by rw [unhide HE]; rfl, hB1⟩
  | true =>
    rcases outB_kind ho with rfl | rfl | rfl | rfl
    · have HE := hide (show outX 2 t u r = textT u from by unfold outX; rw [ho]; rfl)
      have H2 := hide (unhide HX w1 hB1)
      clear ho HX
      go_wp2_with fail
      refine (unhide H2).mono ?_
      rintro e w2 ⟨rfl, hb2⟩
      go_wp2
      go_ret
      exact ⟨by rw [unhide HE]; rfl, bstep hB1 hb2⟩
    · have HE := hide (show outX 3 t u r = noneB from by unfold outX; rw [ho]; rfl)
      clear ho HX
      go_wp2
      go_ret
      exact ⟨by rw [unhide HE]; rfl, bstep hB1 (cell_below _ _)⟩
    · have HE := hide (show outX 4 t u r = bigB from by unfold outX; rw [ho]; rfl)
      clear ho HX
      go_wp2
      go_ret
      exact ⟨by rw [unhide HE]; rfl, bstep hB1 (cell_below _ _)⟩
    · have HE := hide (show outX 5 t u r = wrongB from by unfold outX; rw [ho]; rfl)
      clear ho HX
      go_wp2
      go_ret
      exact ⟨by rw [unhide HE]; rfl, bstep hB1 (cell_below _ _)⟩

set_option maxRecDepth 100000 in
set_option maxHeartbeats 4000000 in
theorem FnExactOutText_walk (ao : Option Addr) (cap : Nat) (t : List C) (k : Int) (uo : Option Addr) (uc : Nat) (u : List C) (w : World) (hm : t.length ≤ maxLen) (hA : Row w ao t) (hF : Fit t) (hw : WfC t) (um : u.length ≤ maxLen) (uA : Row w uo u) (uF : Fit u) (uw : WfC u) (hT : TenT w) :
    Calls Tryd.prog 4 #[.slice ao t.length cap, .agg #[.int .i64 k, .slice uo u.length uc]] w fun e w' => e = .returned (.bool true) ∧ Below w.heap.size w w' := by
  obtain ⟨r, hr⟩ := canB_all t u
  have HR := hide hr
  have HTEN := hide hT
  clear hr hT
  have hb0 := cell_below w (.cells #[.int .i64 k, .slice uo u.length uc] 34)
  have d0 : (w.alloc (.cells #[.int .i64 k, .slice uo u.length uc] 34)).cell? ⟨w.heap.size, 0, none⟩ = some (.int .i64 k) := by
    have hb := World.alloc_heap_new w (.cells #[.int .i64 k, .slice uo u.length uc] 34)
    simp only [World.cell?]; rw [hb]; rfl
  have d1 : (w.alloc (.cells #[.int .i64 k, .slice uo u.length uc] 34)).cell? ⟨w.heap.size, 1, none⟩ = some (.slice uo u.length uc) := by
    have hb := World.alloc_heap_new w (.cells #[.int .i64 k, .slice uo u.length uc] 34)
    simp only [World.cell?]; rw [hb]; rfl
  go_enter Tryd.func4, Tryd.ntmps4
  go_wp2_with fail
  generalize w.alloc (.cells #[.int .i64 k, .slice uo u.length uc] 34) = w0 at hb0 d0 d1 ⊢
  have hl0 : w.heap.size < w0.heap.size := World.block_lt_of_cell? w0 ⟨_, _, none⟩ d1
  refine (szTrmCellS_any ao cap t 1048576 _ hm (hA.below hb0) hF (by omega) (by omega)).mono ?_
  rintro e w1 ⟨r1, rfl, hr1, hb1⟩
  have hB1 := bstep hb0 hb1
  replace d0 := (hb1.cell (p := ⟨w.heap.size, 0, none⟩) hl0).trans d0
  replace d1 := (hb1.cell (p := ⟨w.heap.size, 1, none⟩) hl0).trans d1
  replace hl0 : w.heap.size < w1.heap.size := World.block_lt_of_cell? w1 ⟨_, _, none⟩ d1
  by_cases hr0 : r1 < 0
  · go_wp2
    go_ret
    exact ⟨rfl, hB1⟩
  go_wp2_with fail
  refine (szSlvOut_any k uo uc u r1 _ um (uA.below hB1) uF (by omega) (by omega)).mono ?_
  rintro e w2 ⟨r2, rfl, hr2, hb2⟩
  have hB2 := bstep hB1 hb2
  replace d0 := (hb2.cell (p := ⟨w.heap.size, 0, none⟩) hl0).trans d0
  replace d1 := (hb2.cell (p := ⟨w.heap.size, 1, none⟩) hl0).trans d1
  replace hl0 : w.heap.size < w2.heap.size := World.block_lt_of_cell? w2 ⟨_, _, none⟩ d1
  by_cases hr3 : r2 < 0
  · go_wp2
    go_ret
    exact ⟨rfl, hB2⟩
  have tl : t.length ≤ 1048576 := by omega
  have ul : u.length ≤ 1048576 := by omega
  clear hr1 hr2 hb0 hb1 hb2 hB1
  have HT := hide (fun (W : World) (hW : Below w.heap.size w W) => toTrmCellS_any ao cap t W tl (hA.below hW))
  have HU := hide (fun (W : World) (hW : Below w.heap.size w W) => toSlvOut_any k uo uc u W ul (uA.below hW))
  have HTO := hide (fun (W : World) (base g : Nat) (h : W.ownsRow base 57 3 (.slice (some ⟨g, 0, none⟩) t.length t.length) t.length (flat t)) => out_own h hF hw tl)
  have HUO := hide (fun (W : World) (base g : Nat) (h : W.ownsRow base 57 3 (.slice (some ⟨g, 0, none⟩) u.length u.length) u.length (flat u)) => out_own h uF uw ul)
  clear hA uA hF uF hw uw
  go_wp2_with fail
  have hB2d := hB2.drew
  go_region_held3 (fun w' => w'.cell? ⟨w.heap.size, 0, none⟩ = some (.int .i64 k) ∧ w'.cell? ⟨w.heap.size, 1, none⟩ = some (.slice uo u.length uc)) (first | (refine ⟨?_, ?_⟩ <;> assumption) | go_keep) (first
    | (go_at_call 12; have hx := hb4; refine (specOutText_any k _ _ _ _ t u r w4 (unhide HTO w4 _ _ (own_below ho3 hb4)) (unhide HUO w4 _ _ ho4) (out_td ho4) (unhide HR)).mono ?_; rintro e w5 ⟨rfl, hb5⟩; have g0 := (hb5.cell (p := ⟨w.heap.size, 0, none⟩) hl4).trans f0; have g1 := (hb5.cell (p := ⟨w.heap.size, 1, none⟩) hl4).trans f1; have hl5 : w.heap.size < w5.heap.size := World.block_lt_of_cell? w5 ⟨_, _, none⟩ g1; have hB5 := bstep hB4 hb5)
    | (go_at_call 14; have hx := hb3; refine (unhide HU w3 hB3).mono ?_; rintro e w4 ⟨gg, rfl, hgg, ho4, hb4⟩; have f0 := (hb4.cell (p := ⟨w.heap.size, 0, none⟩) hl3).trans e0; have f1 := (hb4.cell (p := ⟨w.heap.size, 1, none⟩) hl3).trans e1; have hl4 : w.heap.size < w4.heap.size := World.block_lt_of_cell? w4 ⟨_, _, none⟩ f1; have hB4 := bstep hB3 hb4)
    | (go_at_call 13; refine (unhide HT w2.drew hB2d).mono ?_; rintro e w3 ⟨rfl, ho3, hb3⟩; have e0 := (hb3.cell (p := ⟨w.heap.size, 0, none⟩) hl0).trans d0; have e1 := (hb3.cell (p := ⟨w.heap.size, 1, none⟩) hl0).trans d1; have hl3 : w.heap.size < w3.heap.size := World.block_lt_of_cell? w3 ⟨_, _, none⟩ e1; have hB3 := bstep hB2d hb3))
  clear d0 d1 e0 e1 f0 f1 hB2 hB2d hB3 hB4 hb3 hb4 hb5 hl0 hl3 hl4 ho3 ho4
  obtain ⟨B, hBe⟩ : ∃ B, B = outX k t u r := ⟨_, rfl⟩
  rw [← hBe]
  have HBB := hide hBe
  clear hBe
  go_wp2_with fail
  refine (unhide HT w5 hB5).mono ?_
  rintro e w6 ⟨rfl, ho6, hb6⟩
  replace g0 := (hb6.cell (p := ⟨w.heap.size, 0, none⟩) hl5).trans g0
  replace g1 := (hb6.cell (p := ⟨w.heap.size, 1, none⟩) hl5).trans g1
  have hl6 : w.heap.size < w6.heap.size := World.block_lt_of_cell? w6 ⟨_, _, none⟩ g1
  have hB6 := bstep hB5 hb6
  have h65 : w5.heap.size < w6.heap.size := (ho6.lt _ rfl).2
  generalize w5.heap.size = X at ho6 h65 ⊢
  clear hB5 hl5 hb6
  go_wp2_with fail
  refine (unhide HU w6 hB6).mono ?_
  rintro e w7 ⟨Y, rfl, hY, ho7, hb7⟩
  replace g0 := (hb7.cell (p := ⟨w.heap.size, 0, none⟩) hl6).trans g0
  replace g1 := (hb7.cell (p := ⟨w.heap.size, 1, none⟩) hl6).trans g1
  replace ho6 := own_below ho6 hb7
  have hl7 : w.heap.size < w7.heap.size := World.block_lt_of_cell? w7 ⟨_, _, none⟩ g1
  have hB7 := bstep hB6 hb7
  clear hB6 hl6 hb7 hY h65
  go_wp2_with fail
  have x0 : (w7.alloc (.cells #[.int .i64 k, .slice (some ⟨Y, 0, none⟩) u.length u.length] 40)).cell? ⟨w7.heap.size, 0, none⟩ = some (.int .i64 k) := by
    have hb := World.alloc_heap_new w7 (.cells #[.int .i64 k, .slice (some ⟨Y, 0, none⟩) u.length u.length] 40)
    simp only [World.cell?]; rw [hb]; rfl
  have x1 : (w7.alloc (.cells #[.int .i64 k, .slice (some ⟨Y, 0, none⟩) u.length u.length] 40)).cell? ⟨w7.heap.size, 1, none⟩ = some (.slice (some ⟨Y, 0, none⟩) u.length u.length) := by
    have hb := World.alloc_heap_new w7 (.cells #[.int .i64 k, .slice (some ⟨Y, 0, none⟩) u.length u.length] 40)
    simp only [World.cell?]; rw [hb]; rfl
  have nb := cell_below w7 (.cells #[.int .i64 k, .slice (some ⟨Y, 0, none⟩) u.length u.length] 40)
  generalize w7.alloc (.cells #[.int .i64 k, .slice (some ⟨Y, 0, none⟩) u.length u.length] 40) = w8 at x0 x1 nb ⊢
  replace g0 := (nb.cell (p := ⟨w.heap.size, 0, none⟩) hl7).trans g0
  replace g1 := (nb.cell (p := ⟨w.heap.size, 1, none⟩) hl7).trans g1
  replace ho6 := own_below ho6 nb
  replace ho7 := own_below ho7 nb
  have hB8 := bstep hB7 nb
  have hl8 : w.heap.size < w8.heap.size := World.block_lt_of_cell? w8 ⟨_, _, none⟩ g1
  have hx8 : w7.heap.size < w8.heap.size := World.block_lt_of_cell? w8 ⟨_, _, none⟩ x1
  clear nb hB7 hl7
  generalize w7.heap.size = Q at x0 x1 hx8 ⊢
  refine (implOutText_any k _ _ _ _ t u r w8 (unhide HTO w8 _ _ ho6) (unhide HUO w8 _ _ ho7) (unhide HR) ((unhide HTEN).below hB8)).mono ?_
  rw [← unhide HBB]
  rintro e w9 ⟨rfl, hb9⟩
  replace g0 := (hb9.cell (p := ⟨w.heap.size, 0, none⟩) hl8).trans g0
  replace g1 := (hb9.cell (p := ⟨w.heap.size, 1, none⟩) hl8).trans g1
  replace x0 := (hb9.cell (p := ⟨Q, 0, none⟩) hx8).trans x0
  replace x1 := (hb9.cell (p := ⟨Q, 1, none⟩) hx8).trans x1
  replace ho6 := own_below ho6 hb9
  replace ho7 := own_below ho7 hb9
  have hB9 := bstep hB8 hb9
  have hl9 : w.heap.size < w9.heap.size := World.block_lt_of_cell? w9 ⟨_, _, none⟩ g1
  have hx9 : Q < w9.heap.size := World.block_lt_of_cell? w9 ⟨_, _, none⟩ x1
  clear hb9 hB8 hl8 hx8 HBB
  have HE1 := hide (fun (W W' : World) (hW : Below w9.heap.size w9 W) (g : Nat) (h : W.ownsRow w9.heap.size 57 3 (.slice (some ⟨g, 0, none⟩) t.length t.length) t.length (flat t)) => eqTrmCellS_any (some ⟨X, 0, none⟩) (some ⟨g, 0, none⟩) t.length t.length t t W hm (row_of_own (own_below ho6 hW)) (row_of_own h))
  simp only [sameS_yes] at HE1
  have HE2 := hide (fun (W : World) (hW : Below w9.heap.size w9 W) (b g : Nat) (h : W.ownsRow b 57 3 (.slice (some ⟨g, 0, none⟩) u.length u.length) u.length (flat u)) => eqSlvOut_yes k (some ⟨Y, 0, none⟩) (some ⟨g, 0, none⟩) u.length u.length u W um (row_of_own (own_below ho7 hW)) (row_of_own h))
  clear ho6 ho7 HTO HUO HR
  go_wp2_with fail
  refine (unhide HT w9 hB9).mono ?_
  rintro e wa ⟨rfl, hoa, hba⟩
  replace g0 := (hba.cell (p := ⟨w.heap.size, 0, none⟩) hl9).trans g0
  replace g1 := (hba.cell (p := ⟨w.heap.size, 1, none⟩) hl9).trans g1
  replace x0 := (hba.cell (p := ⟨Q, 0, none⟩) hx9).trans x0
  replace x1 := (hba.cell (p := ⟨Q, 1, none⟩) hx9).trans x1
  have hla : w.heap.size < wa.heap.size := World.block_lt_of_cell? wa ⟨_, _, none⟩ g1
  have hxa : Q < wa.heap.size := World.block_lt_of_cell? wa ⟨_, _, none⟩ x1
  have hBa := bstep hB9 hba
  have HE := hide (unhide HE1 wa wa hba _ hoa)
  clear HE1 HT hoa hl9 hx9
  go_wp2_with (go_at_call 16; refine (unhide HE).mono ?_; rintro e wb ⟨rfl, hbb⟩)
  replace g0 := (hbb.cell (p := ⟨w.heap.size, 0, none⟩) hla).trans g0
  replace g1 := (hbb.cell (p := ⟨w.heap.size, 1, none⟩) hla).trans g1
  replace x0 := (hbb.cell (p := ⟨Q, 0, none⟩) hxa).trans x0
  replace x1 := (hbb.cell (p := ⟨Q, 1, none⟩) hxa).trans x1
  have hlb : w.heap.size < wb.heap.size := World.block_lt_of_cell? wb ⟨_, _, none⟩ g1
  have hxb : Q < wb.heap.size := World.block_lt_of_cell? wb ⟨_, _, none⟩ x1
  have hBb := bstep hBa hbb
  have h9b : Below w9.heap.size w9 wb.drew := (bstep hba hbb).drew
  have hBd := hBb.drew
  clear HE hba hbb hla hxa hBa
  go_region_held3 (fun w' => w'.cell? ⟨w.heap.size, 0, none⟩ = some (.int .i64 k) ∧ w'.cell? ⟨w.heap.size, 1, none⟩ = some (.slice uo u.length uc) ∧ w'.cell? ⟨Q, 0, none⟩ = some (.int .i64 k) ∧ w'.cell? ⟨Q, 1, none⟩ = some (.slice (some ⟨Y, 0, none⟩) u.length u.length)) (first | (refine ⟨?_, ?_, ?_, ?_⟩ <;> assumption) | go_keep) (first
    | (go_at_call 17; have hx := hbc; refine (unhide HE2 wc (bstep h9b hbc) _ _ hoc).mono ?_; rintro e wd ⟨rfl, hbd⟩; have n0 := (hbd.cell (p := ⟨w.heap.size, 0, none⟩) hlc).trans m0; have n1 := (hbd.cell (p := ⟨w.heap.size, 1, none⟩) hlc).trans m1; have nx0 := (hbd.cell (p := ⟨Q, 0, none⟩) hxc).trans mx0; have nx1 := (hbd.cell (p := ⟨Q, 1, none⟩) hxc).trans mx1)
    | (go_at_call 14; refine (unhide HU wb.drew hBd).mono ?_; rintro e wc ⟨Z, rfl, hZ, hoc, hbc⟩; have m0 := (hbc.cell (p := ⟨w.heap.size, 0, none⟩) hlb).trans g0; have m1 := (hbc.cell (p := ⟨w.heap.size, 1, none⟩) hlb).trans g1; have mx0 := (hbc.cell (p := ⟨Q, 0, none⟩) hxb).trans x0; have mx1 := (hbc.cell (p := ⟨Q, 1, none⟩) hxb).trans x1; have hlc : w.heap.size < wc.heap.size := World.block_lt_of_cell? wc ⟨_, _, none⟩ m1; have hxc : Q < wc.heap.size := World.block_lt_of_cell? wc ⟨_, _, none⟩ mx1))
  go_wp2
  go_ret
  exact ⟨rfl, bstep (bstep hBd hbc) hbd⟩
end Go.Proofs.YtajkmebjmdolaaaDoor
