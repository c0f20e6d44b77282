/- goalOf of what is no kind; the program's GoalOk. -/
import Derived.Test.YtpfoaleehdiahaaQGI6call
import Derived.Test.YtpfoaleehdiahaaQGI6same
import Derived.Test.YtpfoaleehdiahaaQGI6cut
import Derived.Test.YtpfoaleehdiahaaQGI6less
import Derived.Test.YtpfoaleehdiahaaQGI6plus
import Derived.Test.YtpfoaleehdiahaaQGI6exit
namespace Go.Proofs.Ytpfoaleehdiahaa
open Go.RowKit Go.Shelf
set_option linter.unusedVariables false
set_option linter.unusedSimpArgs false

theorem callT_kind (t : List C) : callT t = (kind0 t == 3) := by
  cases t with
  | nil => rfl
  | cons c r => rfl

set_option maxRecDepth 100000 in
set_option maxHeartbeats 4000000 in
theorem goalOf_other (k : Int) (hk : k < 1 ∨ 6 < k) (xa ya za : Option Addr) (xc yc zc : Nat) (a b c : List C) (w : World) (h : Trip w xa ya za a b c) (h1 : a.length ≤ xc ∧ xc ≤ maxLen) (h2 : b.length ≤ yc ∧ yc ≤ maxLen) (h3 : c.length ≤ zc ∧ zc ≤ maxLen) :
    Calls Try.prog 139 #[.agg #[.int .i64 k, .slice xa a.length xc, .slice ya b.length yc, .slice za c.length zc]] w fun e w' => e = .returned .nilIface ∧ Below w.heap.size w w' := by
  have HA := hide (fun (W : World) (hW : Below w.heap.size w W) => treeOf_opt w.heap.size xa xc a W hW.size h1.1 h1.2 ((h.below hW).ra) h.fa)
  have HB := hide (fun (W : World) (hW : Below w.heap.size w W) => treeOf_opt w.heap.size ya yc b W hW.size h2.1 h2.2 ((h.below hW).rb) h.fb)
  have HC := hide (fun (W : World) (hW : Below w.heap.size w W) => treeOf_opt w.heap.size za zc c W hW.size h3.1 h3.2 ((h.below hW).rc) h.fc)
  have hla := h.la
  have hlb := h.lb
  have hlc := h.lc
  clear h h1 h2 h3
  obtain ⟨hb0, d1, d2, d3⟩ := four_new w (.int .i64 k) (.slice xa a.length xc) (.slice ya b.length yc) (.slice za c.length zc) 100
  have d0 : (w.alloc (.cells #[.int .i64 k, .slice xa a.length xc, .slice ya b.length yc, .slice za c.length zc] 100)).cell? ⟨w.heap.size, 0, none⟩ = some (.int .i64 k) := by
    have hb := World.alloc_heap_new w (.cells #[.int .i64 k, .slice xa a.length xc, .slice ya b.length yc, .slice za c.length zc] 100)
    simp only [World.cell?]; rw [hb]; rfl
  go_enter Try.func139, Try.ntmps139
  go_wp2
  generalize w.alloc (.cells #[.int .i64 k, .slice xa a.length xc, .slice ya b.length yc, .slice za c.length zc] 100) = w0 at hb0 d0 d1 d2 d3 ⊢
  have hl0 : w.heap.size < w0.heap.size := World.block_lt_of_cell? w0 ⟨_, _, none⟩ d1
  go_region_held3 (fun w' => w'.cell? ⟨w.heap.size, 0, none⟩ = some (.int .i64 k) ∧ w'.cell? ⟨w.heap.size, 1, none⟩ = some (.slice xa a.length xc) ∧ w'.cell? ⟨w.heap.size, 2, none⟩ = some (.slice ya b.length yc) ∧ w'.cell? ⟨w.heap.size, 3, none⟩ = some (.slice za c.length zc)) (first | (refine ⟨?_, ?_, ?_, ?_⟩ <;> assumption) | go_keep) (first
    | (go_at_call 50; have hx := hb02; refine (unhide HC w02 (by exact hB02)).mono ?_; rintro e w03 ⟨o3, rfl, hk3, hb03⟩; have g0 := (hb03.cell (p := ⟨w.heap.size, 0, none⟩) hl2).trans f0; have g1 := (hb03.cell (p := ⟨w.heap.size, 1, none⟩) hl2).trans f1; have g2 := (hb03.cell (p := ⟨w.heap.size, 2, none⟩) hl2).trans f2; have g3 := (hb03.cell (p := ⟨w.heap.size, 3, none⟩) hl2).trans f3; have hB03 := bstep hB02 hb03)
    | (go_at_call 50; have hx := hb01; refine (unhide HB w01 (by exact hB01)).mono ?_; rintro e w02 ⟨o2, rfl, hk2, hb02⟩; have f0 := (hb02.cell (p := ⟨w.heap.size, 0, none⟩) hl1).trans e0; have f1 := (hb02.cell (p := ⟨w.heap.size, 1, none⟩) hl1).trans e1; have f2 := (hb02.cell (p := ⟨w.heap.size, 2, none⟩) hl1).trans e2; have f3 := (hb02.cell (p := ⟨w.heap.size, 3, none⟩) hl1).trans e3; have hl2 : w.heap.size < w02.heap.size := World.block_lt_of_cell? w02 ⟨_, _, none⟩ f1; have hB02 := bstep hB01 hb02)
    | (go_at_call 50; refine (unhide HA w0.drew hb0.drew).mono ?_; rintro e w01 ⟨o1, rfl, hk1, hb01⟩; have e0 := (hb01.cell (p := ⟨w.heap.size, 0, none⟩) hl0).trans d0; have e1 := (hb01.cell (p := ⟨w.heap.size, 1, none⟩) hl0).trans d1; have e2 := (hb01.cell (p := ⟨w.heap.size, 2, none⟩) hl0).trans d2; have e3 := (hb01.cell (p := ⟨w.heap.size, 3, none⟩) hl0).trans d3; have hl1 : w.heap.size < w01.heap.size := World.block_lt_of_cell? w01 ⟨_, _, none⟩ e1; have hB01 := bstep hb0.drew hb01))
  have n1 : ¬ k = 1 := by omega
  have n2 : ¬ k = 2 := by omega
  have n3 : ¬ k = 3 := by omega
  have n4 : ¬ k = 4 := by omega
  have n5 : ¬ k = 5 := by omega
  have n6 : ¬ k = 6 := by omega
  clear hb01 hb02 hb03 hB01 hB02 hb0 d0 d1 d2 d3 e0 e1 e2 e3 f0 f1 f2 f3 HA HB HC hl0 hl1 hl2 hx hk1 hk2 hk3 hk hla hlb hlc
  go_wp2
  go_ret
  exact ⟨rfl, hB03⟩

set_option maxRecDepth 100000 in
theorem mayStand_of_call (lo hi : Nat) (a b c : List C) (w1 : World) (v : Value) (hh : hi ≤ w1.heap.size) (hv : Goal_call lo hi a b c w1 v) :
    Calls Try.prog 157 #[v] w1 fun e w' => e = .returned (.bool (goalB 1 a b c)) ∧ Below w1.heap.size w1 w' := by
  rcases hv with ⟨hw, p, rfl, Ta⟩ | ⟨hw, rfl⟩
  · refine (mayStand_call p a w1 (Ta.isIn hh)).mono ?_
    rintro e w2 ⟨rfl, hb2⟩
    refine ⟨?_, hb2⟩
    unfold whole_call at hw; simp only [Bool.and_eq_true, beq_iff_eq] at hw; simp [goalB, l3T_fit a, callT_kind, hw, fitT, Bool.and_assoc]
  · refine (mayStand_nil w1).mono ?_
    rintro e w2 ⟨rfl, rfl⟩
    refine ⟨?_, Below.refl _ _⟩
    unfold whole_call at hw; simp only [goalB, l3T_fit a, callT_kind]; congr 2; revert hw; cases trm a <;> cases (kind0 a == 3) <;> cases b <;> cases c <;> simp
set_option maxRecDepth 100000 in
theorem mayStand_of_same (lo hi : Nat) (a b c : List C) (w1 : World) (v : Value) (hh : hi ≤ w1.heap.size) (hv : Goal_same lo hi a b c w1 v) :
    Calls Try.prog 157 #[v] w1 fun e w' => e = .returned (.bool (goalB 2 a b c)) ∧ Below w1.heap.size w1 w' := by
  rcases hv with ⟨hw, p, q, rfl, Ta, Tb⟩ | ⟨hw, rfl⟩
  · refine (mayStand_same p q a b w1 (Ta.isIn hh) (Tb.isIn hh)).mono ?_
    rintro e w2 ⟨rfl, hb2⟩
    refine ⟨?_, hb2⟩
    unfold whole_same at hw; simp only [Bool.and_eq_true, beq_iff_eq] at hw; simp [goalB, l3T_fit a, l3T_fit b, callT_kind, hw, fitT, Bool.and_assoc]
  · refine (mayStand_nil w1).mono ?_
    rintro e w2 ⟨rfl, rfl⟩
    refine ⟨?_, Below.refl _ _⟩
    unfold whole_same at hw; simp only [goalB, l3T_fit a, l3T_fit b]; congr 2; revert hw; cases trm a <;> cases trm b <;> cases c <;> simp
set_option maxRecDepth 100000 in
theorem mayStand_of_cut (lo hi : Nat) (a b c : List C) (w1 : World) (v : Value) (hh : hi ≤ w1.heap.size) (hv : Goal_cut lo hi a b c w1 v) :
    Calls Try.prog 157 #[v] w1 fun e w' => e = .returned (.bool (goalB 3 a b c)) ∧ Below w1.heap.size w1 w' := by
  rcases hv with ⟨hw, rfl⟩ | ⟨hw, rfl⟩
  · refine (mayStand_cut w1).mono ?_
    rintro e w2 ⟨rfl, hb2⟩
    refine ⟨?_, hb2⟩
    unfold whole_cut at hw; simp only [Bool.and_eq_true, beq_iff_eq] at hw; simp [goalB, hw.1.1, hw.1.2, hw.2]
  · refine (mayStand_nil w1).mono ?_
    rintro e w2 ⟨rfl, rfl⟩
    refine ⟨?_, Below.refl _ _⟩
    unfold whole_cut at hw; simp only [goalB]; congr 2; simp; revert hw; cases a <;> cases b <;> cases c <;> simp
set_option maxRecDepth 100000 in
theorem mayStand_of_less (lo hi : Nat) (a b c : List C) (w1 : World) (v : Value) (hh : hi ≤ w1.heap.size) (hv : Goal_less lo hi a b c w1 v) :
    Calls Try.prog 157 #[v] w1 fun e w' => e = .returned (.bool (goalB 4 a b c)) ∧ Below w1.heap.size w1 w' := by
  rcases hv with ⟨hw, p, q, rfl, Ta, Tb⟩ | ⟨hw, rfl⟩
  · refine (mayStand_less p q a b w1 (Ta.isIn hh) (Tb.isIn hh)).mono ?_
    rintro e w2 ⟨rfl, hb2⟩
    refine ⟨?_, hb2⟩
    unfold whole_less at hw; simp only [Bool.and_eq_true, beq_iff_eq] at hw; simp [goalB, l3T_fit a, l3T_fit b, callT_kind, hw, fitT, Bool.and_assoc]
  · refine (mayStand_nil w1).mono ?_
    rintro e w2 ⟨rfl, rfl⟩
    refine ⟨?_, Below.refl _ _⟩
    unfold whole_less at hw; simp only [goalB, l3T_fit a, l3T_fit b]; congr 2; revert hw; cases trm a <;> cases trm b <;> cases c <;> simp
set_option maxRecDepth 100000 in
theorem mayStand_of_plus (lo hi : Nat) (a b c : List C) (w1 : World) (v : Value) (hh : hi ≤ w1.heap.size) (hv : Goal_plus lo hi a b c w1 v) :
    Calls Try.prog 157 #[v] w1 fun e w' => e = .returned (.bool (goalB 5 a b c)) ∧ Below w1.heap.size w1 w' := by
  rcases hv with ⟨hw, p, q, r, rfl, Ta, Tb, Tc⟩ | ⟨hw, rfl⟩
  · refine (mayStand_plus p q r a b c w1 (Ta.isIn hh) (Tb.isIn hh) (Tc.isIn hh)).mono ?_
    rintro e w2 ⟨rfl, hb2⟩
    refine ⟨?_, hb2⟩
    unfold whole_plus at hw; simp only [Bool.and_eq_true, beq_iff_eq] at hw; simp [goalB, l3T_fit a, l3T_fit b, l3T_fit c, callT_kind, hw, fitT, Bool.and_assoc]
  · refine (mayStand_nil w1).mono ?_
    rintro e w2 ⟨rfl, rfl⟩
    refine ⟨?_, Below.refl _ _⟩
    unfold whole_plus at hw; simp only [goalB, l3T_fit a, l3T_fit b, l3T_fit c]; congr 2; revert hw; cases trm a <;> cases trm b <;> cases trm c <;> simp
set_option maxRecDepth 100000 in
theorem mayStand_of_exit (lo hi : Nat) (a b c : List C) (w1 : World) (v : Value) (hh : hi ≤ w1.heap.size) (hv : Goal_exit lo hi a b c w1 v) :
    Calls Try.prog 157 #[v] w1 fun e w' => e = .returned (.bool (goalB 6 a b c)) ∧ Below w1.heap.size w1 w' := by
  rcases hv with ⟨hw, p, rfl, Ta⟩ | ⟨hw, rfl⟩
  · refine (mayStand_exit (.agg #[ptrV (some p)]) w1).mono ?_
    rintro e w2 ⟨rfl, hb2⟩
    refine ⟨?_, hb2 ▸ Below.refl _ _⟩
    simp [goalB]
  · refine (mayStand_nil w1).mono ?_
    rintro e w2 ⟨rfl, rfl⟩
    refine ⟨?_, Below.refl _ _⟩
    simp [goalB]
end Go.Proofs.Ytpfoaleehdiahaa
