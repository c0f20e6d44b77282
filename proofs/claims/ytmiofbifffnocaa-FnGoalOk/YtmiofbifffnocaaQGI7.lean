/- goalOf of what is no kind; the program's GoalOk. -/
import Derived.Test.YtmiofbifffnocaaQGI6call
import Derived.Test.YtmiofbifffnocaaQGI6same
import Derived.Test.YtmiofbifffnocaaQGI6cut
import Derived.Test.YtmiofbifffnocaaQGI6less
import Derived.Test.YtmiofbifffnocaaQGI6plus
import Derived.Test.YtmiofbifffnocaaQGI6exit
namespace Go.Proofs.Ytmiofbifffnocaa
open Go.RowKit Go.Shelf
set_option linter.unusedVariables false
set_option linter.unusedSimpArgs false

theorem callT_kind (t : List C) : callT t = (kind0 t == 3) := by
  cases t with
  | nil => rfl
  | cons c r => rfl

set_option maxRecDepth 100000 in
set_option maxHeartbeats 4000000 in
theorem goalOf_other (k : Int) (hk : k < 1 ∨ 6 < k) (xa ya za : Option Addr) (xc yc zc : Nat) (a b c : List C) (w : World) (h : Trip w xa ya za a b c) (h1 : a.length ≤ xc ∧ xc ≤ maxLen) (h2 : b.length ≤ yc ∧ yc ≤ maxLen) (h3 : c.length ≤ zc ∧ zc ≤ maxLen) :
    Calls Try.prog 61 #[.agg #[.int .i64 k, .slice xa a.length xc, .slice ya b.length yc, .slice za c.length zc]] w fun e w' => e = .returned .nilIface ∧ Below w.heap.size w w' := by
  have HA := hide (fun (W : World) (hW : Below w.heap.size w W) => treeOf_opt xa xc a W h1.1 h1.2 ((h.below hW).ra) h.fa)
  have HB := hide (fun (W : World) (hW : Below w.heap.size w W) => treeOf_opt ya yc b W h2.1 h2.2 ((h.below hW).rb) h.fb)
  have HC := hide (fun (W : World) (hW : Below w.heap.size w W) => treeOf_opt za zc c W h3.1 h3.2 ((h.below hW).rc) h.fc)
  have hla := h.la
  have hlb := h.lb
  have hlc := h.lc
  clear h h1 h2 h3
  obtain ⟨hb0, d1, d2, d3⟩ := four_new w (.int .i64 k) (.slice xa a.length xc) (.slice ya b.length yc) (.slice za c.length zc) 49
  have d0 : (w.alloc (.cells #[.int .i64 k, .slice xa a.length xc, .slice ya b.length yc, .slice za c.length zc] 49)).cell? ⟨w.heap.size, 0, none⟩ = some (.int .i64 k) := by
    have hb := World.alloc_heap_new w (.cells #[.int .i64 k, .slice xa a.length xc, .slice ya b.length yc, .slice za c.length zc] 49)
    simp only [World.cell?]; rw [hb]; rfl
  go_enter Try.func61, Try.ntmps61
  go_wp2
  generalize w.alloc (.cells #[.int .i64 k, .slice xa a.length xc, .slice ya b.length yc, .slice za c.length zc] 49) = w0 at hb0 d0 d1 d2 d3 ⊢
  have hl0 : w.heap.size < w0.heap.size := World.block_lt_of_cell? w0 ⟨_, _, none⟩ d1
  go_region_held3 (fun w' => w'.cell? ⟨w.heap.size, 0, none⟩ = some (.int .i64 k) ∧ w'.cell? ⟨w.heap.size, 1, none⟩ = some (.slice xa a.length xc) ∧ w'.cell? ⟨w.heap.size, 2, none⟩ = some (.slice ya b.length yc) ∧ w'.cell? ⟨w.heap.size, 3, none⟩ = some (.slice za c.length zc)) (first | (refine ⟨?_, ?_, ?_, ?_⟩ <;> assumption) | go_keep) (first
    | (go_at_call 44; have hx := hb02; refine (unhide HC w02 (by exact hB02)).mono ?_; rintro e w03 ⟨o3, rfl, hk3, hb03⟩; have g0 := (hb03.cell (p := ⟨w.heap.size, 0, none⟩) hl2).trans f0; have g1 := (hb03.cell (p := ⟨w.heap.size, 1, none⟩) hl2).trans f1; have g2 := (hb03.cell (p := ⟨w.heap.size, 2, none⟩) hl2).trans f2; have g3 := (hb03.cell (p := ⟨w.heap.size, 3, none⟩) hl2).trans f3; have hB03 := bstep hB02 hb03)
    | (go_at_call 44; have hx := hb01; refine (unhide HB w01 (by exact hB01)).mono ?_; rintro e w02 ⟨o2, rfl, hk2, hb02⟩; have f0 := (hb02.cell (p := ⟨w.heap.size, 0, none⟩) hl1).trans e0; have f1 := (hb02.cell (p := ⟨w.heap.size, 1, none⟩) hl1).trans e1; have f2 := (hb02.cell (p := ⟨w.heap.size, 2, none⟩) hl1).trans e2; have f3 := (hb02.cell (p := ⟨w.heap.size, 3, none⟩) hl1).trans e3; have hl2 : w.heap.size < w02.heap.size := World.block_lt_of_cell? w02 ⟨_, _, none⟩ f1; have hB02 := bstep hB01 hb02)
    | (go_at_call 44; refine (unhide HA w0.drew hb0.drew).mono ?_; rintro e w01 ⟨o1, rfl, hk1, hb01⟩; have e0 := (hb01.cell (p := ⟨w.heap.size, 0, none⟩) hl0).trans d0; have e1 := (hb01.cell (p := ⟨w.heap.size, 1, none⟩) hl0).trans d1; have e2 := (hb01.cell (p := ⟨w.heap.size, 2, none⟩) hl0).trans d2; have e3 := (hb01.cell (p := ⟨w.heap.size, 3, none⟩) hl0).trans d3; have hl1 : w.heap.size < w01.heap.size := World.block_lt_of_cell? w01 ⟨_, _, none⟩ e1; have hB01 := bstep hb0.drew hb01))
  have n1 : ¬ k = 1 := by omega
  have n2 : ¬ k = 2 := by omega
  have n3 : ¬ k = 3 := by omega
  have n4 : ¬ k = 4 := by omega
  have n5 : ¬ k = 5 := by omega
  have n6 : ¬ k = 6 := by omega
  clear hb01 hb02 hb03 hB01 hB02 hb0 d0 d1 d2 d3 e0 e1 e2 e3 f0 f1 f2 f3 HA HB HC hl0 hl1 hl2 hx hk1 hk2 hk3 hk hla hlb hlc
  go_wp2
  go_ret
  exact ⟨rfl, hB03⟩

set_option maxRecDepth 100000 in
theorem mayStand_of_call (a b c : List C) (w1 : World) (v : Value) (hv : Goal_call a b c w1 v) :
    Calls Try.prog 60 #[v] w1 fun e w' => e = .returned (.bool (goalB 1 a b c)) ∧ Below w1.heap.size w1 w' := by
  rcases hv with ⟨hw, p, rfl, Ta⟩ | ⟨hw, rfl⟩
  · refine (mayStand_call p a w1 Ta).mono ?_
    rintro e w2 ⟨rfl, hb2⟩
    refine ⟨?_, hb2⟩
    unfold whole_call at hw; simp only [Bool.and_eq_true, beq_iff_eq] at hw; simp [goalB, l3T_fit a, callT_kind, hw, fitT, Bool.and_assoc]
  · refine (mayStand_nil w1).mono ?_
    rintro e w2 ⟨rfl, rfl⟩
    refine ⟨?_, Below.refl _ _⟩
    unfold whole_call at hw; simp only [goalB, l3T_fit a, callT_kind]; congr 2; revert hw; cases trm a <;> cases (kind0 a == 3) <;> cases b <;> cases c <;> simp
set_option maxRecDepth 100000 in
set_option maxHeartbeats 2000000 in
theorem implGoalOk_call (xa ya za : Option Addr) (xc yc zc : Nat) (a b c : List C) (w : World) (h : Trip w xa ya za a b c) (h1 : a.length ≤ xc ∧ xc ≤ maxLen) (h2 : b.length ≤ yc ∧ yc ≤ maxLen) (h3 : c.length ≤ zc ∧ zc ≤ maxLen) :
    Calls Try.prog 24 #[.agg #[.int .i64 1, .slice xa a.length xc, .slice ya b.length yc, .slice za c.length zc]] w fun e w' => e = .returned (.bool (goalB 1 a b c)) ∧ Below w.heap.size w w' := by
  have H := hide (fun (W : World) (hW : Below w.heap.size w W) => goalOf_call xa ya za xc yc zc a b c W (h.below hW) h1 h2 h3)
  have HM := hide (mayStand_of_call a b c)
  clear h h1 h2 h3
  go_enter Try.func24, Try.ntmps24
  go_wp2_with (first
    | (go_at_call 61; refine (unhide H _ (by first | exact (cell_below _ _).drew | exact cell_below _ _)).mono ?_; rintro e w1 ⟨v, rfl, hv, hb1⟩; clear H)
    | (go_at_call 60; refine (unhide HM w1 v hv).mono ?_; rintro e w2 ⟨rfl, hb2⟩; clear HM))
  go_ret
  exact ⟨rfl, bstep (by first | exact bstep (cell_below _ _) hb1 | exact bstep (cell_below _ _).drew hb1) hb2⟩
set_option maxRecDepth 100000 in
theorem mayStand_of_same (a b c : List C) (w1 : World) (v : Value) (hv : Goal_same a b c w1 v) :
    Calls Try.prog 60 #[v] w1 fun e w' => e = .returned (.bool (goalB 2 a b c)) ∧ Below w1.heap.size w1 w' := by
  rcases hv with ⟨hw, p, q, rfl, Ta, Tb⟩ | ⟨hw, rfl⟩
  · refine (mayStand_same p q a b w1 Ta Tb).mono ?_
    rintro e w2 ⟨rfl, hb2⟩
    refine ⟨?_, hb2⟩
    unfold whole_same at hw; simp only [Bool.and_eq_true, beq_iff_eq] at hw; simp [goalB, l3T_fit a, l3T_fit b, callT_kind, hw, fitT, Bool.and_assoc]
  · refine (mayStand_nil w1).mono ?_
    rintro e w2 ⟨rfl, rfl⟩
    refine ⟨?_, Below.refl _ _⟩
    unfold whole_same at hw; simp only [goalB, l3T_fit a, l3T_fit b]; congr 2; revert hw; cases trm a <;> cases trm b <;> cases c <;> simp
set_option maxRecDepth 100000 in
set_option maxHeartbeats 2000000 in
theorem implGoalOk_same (xa ya za : Option Addr) (xc yc zc : Nat) (a b c : List C) (w : World) (h : Trip w xa ya za a b c) (h1 : a.length ≤ xc ∧ xc ≤ maxLen) (h2 : b.length ≤ yc ∧ yc ≤ maxLen) (h3 : c.length ≤ zc ∧ zc ≤ maxLen) :
    Calls Try.prog 24 #[.agg #[.int .i64 2, .slice xa a.length xc, .slice ya b.length yc, .slice za c.length zc]] w fun e w' => e = .returned (.bool (goalB 2 a b c)) ∧ Below w.heap.size w w' := by
  have H := hide (fun (W : World) (hW : Below w.heap.size w W) => goalOf_same xa ya za xc yc zc a b c W (h.below hW) h1 h2 h3)
  have HM := hide (mayStand_of_same a b c)
  clear h h1 h2 h3
  go_enter Try.func24, Try.ntmps24
  go_wp2_with (first
    | (go_at_call 61; refine (unhide H _ (by first | exact (cell_below _ _).drew | exact cell_below _ _)).mono ?_; rintro e w1 ⟨v, rfl, hv, hb1⟩; clear H)
    | (go_at_call 60; refine (unhide HM w1 v hv).mono ?_; rintro e w2 ⟨rfl, hb2⟩; clear HM))
  go_ret
  exact ⟨rfl, bstep (by first | exact bstep (cell_below _ _) hb1 | exact bstep (cell_below _ _).drew hb1) hb2⟩
set_option maxRecDepth 100000 in
theorem mayStand_of_cut (a b c : List C) (w1 : World) (v : Value) (hv : Goal_cut a b c w1 v) :
    Calls Try.prog 60 #[v] w1 fun e w' => e = .returned (.bool (goalB 3 a b c)) ∧ Below w1.heap.size w1 w' := by
  rcases hv with ⟨hw, rfl⟩ | ⟨hw, rfl⟩
  · refine (mayStand_cut w1).mono ?_
    rintro e w2 ⟨rfl, hb2⟩
    refine ⟨?_, hb2⟩
    unfold whole_cut at hw; simp only [Bool.and_eq_true, beq_iff_eq] at hw; simp [goalB, hw.1.1, hw.1.2, hw.2]
  · refine (mayStand_nil w1).mono ?_
    rintro e w2 ⟨rfl, rfl⟩
    refine ⟨?_, Below.refl _ _⟩
    unfold whole_cut at hw; simp only [goalB]; congr 2; simp; revert hw; cases a <;> cases b <;> cases c <;> simp
set_option maxRecDepth 100000 in
set_option maxHeartbeats 2000000 in
theorem implGoalOk_cut (xa ya za : Option Addr) (xc yc zc : Nat) (a b c : List C) (w : World) (h : Trip w xa ya za a b c) (h1 : a.length ≤ xc ∧ xc ≤ maxLen) (h2 : b.length ≤ yc ∧ yc ≤ maxLen) (h3 : c.length ≤ zc ∧ zc ≤ maxLen) :
    Calls Try.prog 24 #[.agg #[.int .i64 3, .slice xa a.length xc, .slice ya b.length yc, .slice za c.length zc]] w fun e w' => e = .returned (.bool (goalB 3 a b c)) ∧ Below w.heap.size w w' := by
  have H := hide (fun (W : World) (hW : Below w.heap.size w W) => goalOf_cut xa ya za xc yc zc a b c W (h.below hW) h1 h2 h3)
  have HM := hide (mayStand_of_cut a b c)
  clear h h1 h2 h3
  go_enter Try.func24, Try.ntmps24
  go_wp2_with (first
    | (go_at_call 61; refine (unhide H _ (by first | exact (cell_below _ _).drew | exact cell_below _ _)).mono ?_; rintro e w1 ⟨v, rfl, hv, hb1⟩; clear H)
    | (go_at_call 60; refine (unhide HM w1 v hv).mono ?_; rintro e w2 ⟨rfl, hb2⟩; clear HM))
  go_ret
  exact ⟨rfl, bstep (by first | exact bstep (cell_below _ _) hb1 | exact bstep (cell_below _ _).drew hb1) hb2⟩
set_option maxRecDepth 100000 in
theorem mayStand_of_less (a b c : List C) (w1 : World) (v : Value) (hv : Goal_less a b c w1 v) :
    Calls Try.prog 60 #[v] w1 fun e w' => e = .returned (.bool (goalB 4 a b c)) ∧ Below w1.heap.size w1 w' := by
  rcases hv with ⟨hw, p, q, rfl, Ta, Tb⟩ | ⟨hw, rfl⟩
  · refine (mayStand_less p q a b w1 Ta Tb).mono ?_
    rintro e w2 ⟨rfl, hb2⟩
    refine ⟨?_, hb2⟩
    unfold whole_less at hw; simp only [Bool.and_eq_true, beq_iff_eq] at hw; simp [goalB, l3T_fit a, l3T_fit b, callT_kind, hw, fitT, Bool.and_assoc]
  · refine (mayStand_nil w1).mono ?_
    rintro e w2 ⟨rfl, rfl⟩
    refine ⟨?_, Below.refl _ _⟩
    unfold whole_less at hw; simp only [goalB, l3T_fit a, l3T_fit b]; congr 2; revert hw; cases trm a <;> cases trm b <;> cases c <;> simp
set_option maxRecDepth 100000 in
set_option maxHeartbeats 2000000 in
theorem implGoalOk_less (xa ya za : Option Addr) (xc yc zc : Nat) (a b c : List C) (w : World) (h : Trip w xa ya za a b c) (h1 : a.length ≤ xc ∧ xc ≤ maxLen) (h2 : b.length ≤ yc ∧ yc ≤ maxLen) (h3 : c.length ≤ zc ∧ zc ≤ maxLen) :
    Calls Try.prog 24 #[.agg #[.int .i64 4, .slice xa a.length xc, .slice ya b.length yc, .slice za c.length zc]] w fun e w' => e = .returned (.bool (goalB 4 a b c)) ∧ Below w.heap.size w w' := by
  have H := hide (fun (W : World) (hW : Below w.heap.size w W) => goalOf_less xa ya za xc yc zc a b c W (h.below hW) h1 h2 h3)
  have HM := hide (mayStand_of_less a b c)
  clear h h1 h2 h3
  go_enter Try.func24, Try.ntmps24
  go_wp2_with (first
    | (go_at_call 61; refine (unhide H _ (by first | exact (cell_below _ _).drew | exact cell_below _ _)).mono ?_; rintro e w1 ⟨v, rfl, hv, hb1⟩; clear H)
    | (go_at_call 60; refine (unhide HM w1 v hv).mono ?_; rintro e w2 ⟨rfl, hb2⟩; clear HM))
  go_ret
  exact ⟨rfl, bstep (by first | exact bstep (cell_below _ _) hb1 | exact bstep (cell_below _ _).drew hb1) hb2⟩
set_option maxRecDepth 100000 in
theorem mayStand_of_plus (a b c : List C) (w1 : World) (v : Value) (hv : Goal_plus a b c w1 v) :
    Calls Try.prog 60 #[v] w1 fun e w' => e = .returned (.bool (goalB 5 a b c)) ∧ Below w1.heap.size w1 w' := by
  rcases hv with ⟨hw, p, q, r, rfl, Ta, Tb, Tc⟩ | ⟨hw, rfl⟩
  · refine (mayStand_plus p q r a b c w1 Ta Tb Tc).mono ?_
    rintro e w2 ⟨rfl, hb2⟩
    refine ⟨?_, hb2⟩
    unfold whole_plus at hw; simp only [Bool.and_eq_true, beq_iff_eq] at hw; simp [goalB, l3T_fit a, l3T_fit b, l3T_fit c, callT_kind, hw, fitT, Bool.and_assoc]
  · refine (mayStand_nil w1).mono ?_
    rintro e w2 ⟨rfl, rfl⟩
    refine ⟨?_, Below.refl _ _⟩
    unfold whole_plus at hw; simp only [goalB, l3T_fit a, l3T_fit b, l3T_fit c]; congr 2; revert hw; cases trm a <;> cases trm b <;> cases trm c <;> simp
set_option maxRecDepth 100000 in
set_option maxHeartbeats 2000000 in
theorem implGoalOk_plus (xa ya za : Option Addr) (xc yc zc : Nat) (a b c : List C) (w : World) (h : Trip w xa ya za a b c) (h1 : a.length ≤ xc ∧ xc ≤ maxLen) (h2 : b.length ≤ yc ∧ yc ≤ maxLen) (h3 : c.length ≤ zc ∧ zc ≤ maxLen) :
    Calls Try.prog 24 #[.agg #[.int .i64 5, .slice xa a.length xc, .slice ya b.length yc, .slice za c.length zc]] w fun e w' => e = .returned (.bool (goalB 5 a b c)) ∧ Below w.heap.size w w' := by
  have H := hide (fun (W : World) (hW : Below w.heap.size w W) => goalOf_plus xa ya za xc yc zc a b c W (h.below hW) h1 h2 h3)
  have HM := hide (mayStand_of_plus a b c)
  clear h h1 h2 h3
  go_enter Try.func24, Try.ntmps24
  go_wp2_with (first
    | (go_at_call 61; refine (unhide H _ (by first | exact (cell_below _ _).drew | exact cell_below _ _)).mono ?_; rintro e w1 ⟨v, rfl, hv, hb1⟩; clear H)
    | (go_at_call 60; refine (unhide HM w1 v hv).mono ?_; rintro e w2 ⟨rfl, hb2⟩; clear HM))
  go_ret
  exact ⟨rfl, bstep (by first | exact bstep (cell_below _ _) hb1 | exact bstep (cell_below _ _).drew hb1) hb2⟩
set_option maxRecDepth 100000 in
theorem mayStand_of_exit (a b c : List C) (w1 : World) (v : Value) (hv : Goal_exit a b c w1 v) :
    Calls Try.prog 60 #[v] w1 fun e w' => e = .returned (.bool (goalB 6 a b c)) ∧ Below w1.heap.size w1 w' := by
  rcases hv with ⟨hw, p, rfl, Ta⟩ | ⟨hw, rfl⟩
  · refine (mayStand_exit (.agg #[ptrV (some p)]) w1).mono ?_
    rintro e w2 ⟨rfl, hb2⟩
    refine ⟨?_, hb2 ▸ Below.refl _ _⟩
    simp [goalB]
  · refine (mayStand_nil w1).mono ?_
    rintro e w2 ⟨rfl, rfl⟩
    refine ⟨?_, Below.refl _ _⟩
    simp [goalB]
set_option maxRecDepth 100000 in
set_option maxHeartbeats 2000000 in
theorem implGoalOk_exit (xa ya za : Option Addr) (xc yc zc : Nat) (a b c : List C) (w : World) (h : Trip w xa ya za a b c) (h1 : a.length ≤ xc ∧ xc ≤ maxLen) (h2 : b.length ≤ yc ∧ yc ≤ maxLen) (h3 : c.length ≤ zc ∧ zc ≤ maxLen) :
    Calls Try.prog 24 #[.agg #[.int .i64 6, .slice xa a.length xc, .slice ya b.length yc, .slice za c.length zc]] w fun e w' => e = .returned (.bool (goalB 6 a b c)) ∧ Below w.heap.size w w' := by
  have H := hide (fun (W : World) (hW : Below w.heap.size w W) => goalOf_exit xa ya za xc yc zc a b c W (h.below hW) h1 h2 h3)
  have HM := hide (mayStand_of_exit a b c)
  clear h h1 h2 h3
  go_enter Try.func24, Try.ntmps24
  go_wp2_with (first
    | (go_at_call 61; refine (unhide H _ (by first | exact (cell_below _ _).drew | exact cell_below _ _)).mono ?_; rintro e w1 ⟨v, rfl, hv, hb1⟩; clear H)
    | (go_at_call 60; refine (unhide HM w1 v hv).mono ?_; rintro e w2 ⟨rfl, hb2⟩; clear HM))
  go_ret
  exact ⟨rfl, bstep (by first | exact bstep (cell_below _ _) hb1 | exact bstep (cell_below _ _).drew hb1) hb2⟩
set_option maxRecDepth 100000 in
set_option maxHeartbeats 2000000 in
theorem implGoalOk_any (k : Int) (xa ya za : Option Addr) (xc yc zc : Nat) (a b c : List C) (w : World) (h : Trip w xa ya za a b c) (h1 : a.length ≤ xc ∧ xc ≤ maxLen) (h2 : b.length ≤ yc ∧ yc ≤ maxLen) (h3 : c.length ≤ zc ∧ zc ≤ maxLen) :
    Calls Try.prog 24 #[.agg #[.int .i64 k, .slice xa a.length xc, .slice ya b.length yc, .slice za c.length zc]] w fun e w' => e = .returned (.bool (goalB k a b c)) ∧ Below w.heap.size w w' := by
  by_cases k1 : k = 1
  · subst k1; exact implGoalOk_call xa ya za xc yc zc a b c w h h1 h2 h3
  by_cases k2 : k = 2
  · subst k2; exact implGoalOk_same xa ya za xc yc zc a b c w h h1 h2 h3
  by_cases k3 : k = 3
  · subst k3; exact implGoalOk_cut xa ya za xc yc zc a b c w h h1 h2 h3
  by_cases k4 : k = 4
  · subst k4; exact implGoalOk_less xa ya za xc yc zc a b c w h h1 h2 h3
  by_cases k5 : k = 5
  · subst k5; exact implGoalOk_plus xa ya za xc yc zc a b c w h h1 h2 h3
  by_cases k6 : k = 6
  · subst k6; exact implGoalOk_exit xa ya za xc yc zc a b c w h h1 h2 h3
  have hg : goalB k a b c = false := by unfold goalB; rw [if_neg k1, if_neg k3, if_neg (by omega), if_neg k5]
  have H := hide (fun (W : World) (hW : Below w.heap.size w W) => goalOf_other k (by omega) xa ya za xc yc zc a b c W (h.below hW) h1 h2 h3)
  have HM := hide (fun (W : World) => mayStand_nil W)
  rw [hg]
  clear hg h h1 h2 h3 k1 k2 k3 k4 k5 k6
  go_enter Try.func24, Try.ntmps24
  go_wp2_with (first
    | (go_at_call 61; refine (unhide H _ (by first | exact (cell_below _ _).drew | exact cell_below _ _)).mono ?_; rintro e w1 ⟨rfl, hb1⟩; clear H)
    | (go_at_call 60; refine (unhide HM w1).mono ?_; rintro e w2 ⟨rfl, rfl⟩; clear HM))
  go_ret
  exact ⟨rfl, by first | exact bstep (cell_below _ _) hb1 | exact bstep (cell_below _ _).drew hb1⟩
end Go.Proofs.Ytmiofbifffnocaa
