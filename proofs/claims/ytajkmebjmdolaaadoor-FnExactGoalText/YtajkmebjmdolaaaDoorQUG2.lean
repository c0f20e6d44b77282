/- Goals' texts: GoalText of the program. -/
import Derived.Test.YtajkmebjmdolaaaDoorQUG1
namespace Go.Proofs.YtajkmebjmdolaaaDoor
open Go.RowKit Go.Shelf
set_option linter.unusedVariables false
set_option linter.unusedSimpArgs false

theorem goalB_call {a b c : List C} (hg : goalB 1 a b c = true) : whole_call a b c = true ∧ l3T a = true := by
  simp only [goalB] at hg
  simp at hg
  have ha := (l3T_iff a).1 hg.1.1
  skip
  unfold whole_call
  refine ⟨?_, hg.1.1⟩
  have := hg.1.2; rw [callT_kind] at this; simp [ha.1, hg.2]; exact (by simpa using this)

set_option maxRecDepth 100000 in
theorem goalText_of_call {lo : Nat} {a b c : List C} {w : World} {v : Value} (hv : Goal_call lo w.heap.size a b c w v) (hg : goalB 1 a b c = true) (hT : TenT w) :
    ∀ W, Below w.heap.size w W → Calls Tryd.prog 22 #[v] W fun e w' => e = .returned (.string (gX 1 a b c)) ∧ Below W.heap.size W w' := by
  intro W hW
  have HX : gX 1 a b c = textT a := by unfold gX; rw [hg]; rfl
  rw [HX]
  obtain ⟨hw, la⟩ := goalB_call hg
  rcases hv with ⟨_, p, rfl, Ta⟩ | ⟨hn, _⟩
  · exact goalText_call p a W (fun W2 h2 => txtAt_of Ta ((l3T_iff a).1 la).1 hT W2 (bstep hW h2)) (textT_size la)
  · rw [hw] at hn; cases hn

set_option maxRecDepth 100000 in
set_option maxHeartbeats 2000000 in
theorem implGoalText_call (xa ya za : Option Addr) (xc yc zc : Nat) (a b c : List C) (w : World) (h : Trip w xa ya za a b c) (h1 : a.length ≤ xc ∧ xc ≤ maxLen) (h2 : b.length ≤ yc ∧ yc ≤ maxLen) (h3 : c.length ≤ zc ∧ zc ≤ maxLen) (hT : TenT w) :
    Calls Tryd.prog 8 #[.agg #[.int .i64 1, .slice xa a.length xc, .slice ya b.length yc, .slice za c.length zc]] w fun e w' => e = .returned (.string (gX 1 a b c)) ∧ Below w.heap.size w w' := by
  have H := hide (fun (W : World) (hW : Below w.heap.size w W) => goalOf_call xa ya za xc yc zc a b c W (h.below hW) h1 h2 h3)
  have HTT := hide (fun (W : World) (hW : Below w.heap.size w W) => hT.below hW)
  clear h h1 h2 h3 hT
  have hb0 := cell_below w (.cells #[.int .i64 1, .slice xa a.length xc, .slice ya b.length yc, .slice za c.length zc] 29)
  go_enter Tryd.func8, Tryd.ntmps8
  cases hg : goalB 1 a b c with
  | false =>
    have HE := hide (show gX 1 a b c = ByteArray.empty from by unfold gX; rw [hg]; rfl)
    go_wp2_with (first
      | (go_at_call 20; refine (unhide H _ hb0).mono ?_; rintro e w1 ⟨v, rfl, hv, hb1⟩; clear H; have HM := hide (mayStand_of_call _ _ a b c w1 v (Nat.le_refl _) hv); rw [hg] at HM)
      | (go_at_call 21; refine (unhide HM).mono ?_; rintro e w2 ⟨rfl, hb2⟩))
    go_ret
    exact ⟨by rw [unhide HE]; rfl, bstep (bstep hb0 hb1) hb2⟩
  | true =>
    go_wp2_with (first
      | (go_at_call 20; refine (unhide H _ hb0).mono ?_; rintro e w1 ⟨v, rfl, hv, hb1⟩; clear H; have HM := hide (mayStand_of_call _ _ a b c w1 v (Nat.le_refl _) hv); rw [hg] at HM; have HX := hide (goalText_of_call hv hg (unhide HTT w1 (bstep hb0 hb1))))
      | (go_at_call 21; refine (unhide HM).mono ?_; rintro e w2 ⟨rfl, hb2⟩; have HX2 := hide (unhide HX w2 hb2))
      | (go_at_call 22; refine (unhide HX2).mono ?_; rintro e w3 ⟨rfl, hb3⟩))
    go_ret
    exact ⟨rfl, bstep (bstep (bstep hb0 hb1) hb2) hb3⟩

theorem goalB_same {a b c : List C} (hg : goalB 2 a b c = true) : whole_same a b c = true ∧ l3T a = true ∧ l3T b = true := by
  simp only [goalB] at hg
  simp at hg
  have ha := (l3T_iff a).1 hg.1.1; have hb := (l3T_iff b).1 hg.1.2
  skip
  unfold whole_same
  exact ⟨by simp [ha.1, hb.1, hg.2], hg.1.1, hg.1.2⟩

set_option maxRecDepth 100000 in
theorem goalText_of_same {lo : Nat} {a b c : List C} {w : World} {v : Value} (hv : Goal_same lo w.heap.size a b c w v) (hg : goalB 2 a b c = true) (hT : TenT w) :
    ∀ W, Below w.heap.size w W → Calls Tryd.prog 22 #[v] W fun e w' => e = .returned (.string (gX 2 a b c)) ∧ Below W.heap.size W w' := by
  intro W hW
  have HX : gX 2 a b c = textT a ++ ({ data := #[32, 61, 32] } : ByteArray) ++ textT b := by unfold gX; rw [hg]; rfl
  rw [HX]
  obtain ⟨hw, la, lb⟩ := goalB_same hg
  rcases hv with ⟨_, p, q, rfl, Ta, Tb⟩ | ⟨hn, _⟩
  · exact goalText_same p q a b W (fun W2 h2 => txtAt_of Ta ((l3T_iff a).1 la).1 hT W2 (bstep hW h2)) (textT_size la) (fun W2 h2 => txtAt_of Tb ((l3T_iff b).1 lb).1 hT W2 (bstep hW h2)) (textT_size lb)
  · rw [hw] at hn; cases hn

set_option maxRecDepth 100000 in
set_option maxHeartbeats 2000000 in
theorem implGoalText_same (xa ya za : Option Addr) (xc yc zc : Nat) (a b c : List C) (w : World) (h : Trip w xa ya za a b c) (h1 : a.length ≤ xc ∧ xc ≤ maxLen) (h2 : b.length ≤ yc ∧ yc ≤ maxLen) (h3 : c.length ≤ zc ∧ zc ≤ maxLen) (hT : TenT w) :
    Calls Tryd.prog 8 #[.agg #[.int .i64 2, .slice xa a.length xc, .slice ya b.length yc, .slice za c.length zc]] w fun e w' => e = .returned (.string (gX 2 a b c)) ∧ Below w.heap.size w w' := by
  have H := hide (fun (W : World) (hW : Below w.heap.size w W) => goalOf_same xa ya za xc yc zc a b c W (h.below hW) h1 h2 h3)
  have HTT := hide (fun (W : World) (hW : Below w.heap.size w W) => hT.below hW)
  clear h h1 h2 h3 hT
  have hb0 := cell_below w (.cells #[.int .i64 2, .slice xa a.length xc, .slice ya b.length yc, .slice za c.length zc] 29)
  go_enter Tryd.func8, Tryd.ntmps8
  cases hg : goalB 2 a b c with
  | false =>
    have HE := hide (show gX 2 a b c = ByteArray.empty from by unfold gX; rw [hg]; rfl)
    go_wp2_with (first
      | (go_at_call 20; refine (unhide H _ hb0).mono ?_; rintro e w1 ⟨v, rfl, hv, hb1⟩; clear H; have HM := hide (mayStand_of_same _ _ a b c w1 v (Nat.le_refl _) hv); rw [hg] at HM)
      | (go_at_call 21; refine (unhide HM).mono ?_; rintro e w2 ⟨rfl, hb2⟩))
    go_ret
    exact ⟨by rw [unhide HE]; rfl, bstep (bstep hb0 hb1) hb2⟩
  | true =>
    go_wp2_with (first
      | (go_at_call 20; refine (unhide H _ hb0).mono ?_; rintro e w1 ⟨v, rfl, hv, hb1⟩; clear H; have HM := hide (mayStand_of_same _ _ a b c w1 v (Nat.le_refl _) hv); rw [hg] at HM; have HX := hide (goalText_of_same hv hg (unhide HTT w1 (bstep hb0 hb1))))
      | (go_at_call 21; refine (unhide HM).mono ?_; rintro e w2 ⟨rfl, hb2⟩; have HX2 := hide (unhide HX w2 hb2))
      | (go_at_call 22; refine (unhide HX2).mono ?_; rintro e w3 ⟨rfl, hb3⟩))
    go_ret
    exact ⟨rfl, bstep (bstep (bstep hb0 hb1) hb2) hb3⟩

theorem goalB_cut {a b c : List C} (hg : goalB 3 a b c = true) : whole_cut a b c = true := by
  simp only [goalB] at hg
  simp at hg
  skip
  skip
  unfold whole_cut
  simp [hg]

set_option maxRecDepth 100000 in
theorem goalText_of_cut {lo : Nat} {a b c : List C} {w : World} {v : Value} (hv : Goal_cut lo w.heap.size a b c w v) (hg : goalB 3 a b c = true) (hT : TenT w) :
    ∀ W, Below w.heap.size w W → Calls Tryd.prog 22 #[v] W fun e w' => e = .returned (.string (gX 3 a b c)) ∧ Below W.heap.size W w' := by
  intro W hW
  have HX : gX 3 a b c = ({ data := #[33] } : ByteArray) := by unfold gX; rw [hg]; rfl
  rw [HX]
  obtain hw := goalB_cut hg
  rcases hv with ⟨_, rfl⟩ | ⟨hn, _⟩
  · exact goalText_cut   W 
  · rw [hw] at hn; cases hn

set_option maxRecDepth 100000 in
set_option maxHeartbeats 2000000 in
theorem implGoalText_cut (xa ya za : Option Addr) (xc yc zc : Nat) (a b c : List C) (w : World) (h : Trip w xa ya za a b c) (h1 : a.length ≤ xc ∧ xc ≤ maxLen) (h2 : b.length ≤ yc ∧ yc ≤ maxLen) (h3 : c.length ≤ zc ∧ zc ≤ maxLen) (hT : TenT w) :
    Calls Tryd.prog 8 #[.agg #[.int .i64 3, .slice xa a.length xc, .slice ya b.length yc, .slice za c.length zc]] w fun e w' => e = .returned (.string (gX 3 a b c)) ∧ Below w.heap.size w w' := by
  have H := hide (fun (W : World) (hW : Below w.heap.size w W) => goalOf_cut xa ya za xc yc zc a b c W (h.below hW) h1 h2 h3)
  have HTT := hide (fun (W : World) (hW : Below w.heap.size w W) => hT.below hW)
  clear h h1 h2 h3 hT
  have hb0 := cell_below w (.cells #[.int .i64 3, .slice xa a.length xc, .slice ya b.length yc, .slice za c.length zc] 29)
  go_enter Tryd.func8, Tryd.ntmps8
  cases hg : goalB 3 a b c with
  | false =>
    have HE := hide (show gX 3 a b c = ByteArray.empty from by unfold gX; rw [hg]; rfl)
    go_wp2_with (first
      | (go_at_call 20; refine (unhide H _ hb0).mono ?_; rintro e w1 ⟨v, rfl, hv, hb1⟩; clear H; have HM := hide (mayStand_of_cut _ _ a b c w1 v (Nat.le_refl _) hv); rw [hg] at HM)
      | (go_at_call 21; refine (unhide HM).mono ?_; rintro e w2 ⟨rfl, hb2⟩))
    go_ret
    exact ⟨by rw [unhide HE]; rfl, bstep (bstep hb0 hb1) hb2⟩
  | true =>
    go_wp2_with (first
      | (go_at_call 20; refine (unhide H _ hb0).mono ?_; rintro e w1 ⟨v, rfl, hv, hb1⟩; clear H; have HM := hide (mayStand_of_cut _ _ a b c w1 v (Nat.le_refl _) hv); rw [hg] at HM; have HX := hide (goalText_of_cut hv hg (unhide HTT w1 (bstep hb0 hb1))))
      | (go_at_call 21; refine (unhide HM).mono ?_; rintro e w2 ⟨rfl, hb2⟩; have HX2 := hide (unhide HX w2 hb2))
      | (go_at_call 22; refine (unhide HX2).mono ?_; rintro e w3 ⟨rfl, hb3⟩))
    go_ret
    exact ⟨rfl, bstep (bstep (bstep hb0 hb1) hb2) hb3⟩

theorem goalB_less {a b c : List C} (hg : goalB 4 a b c = true) : whole_less a b c = true ∧ l3T a = true ∧ l3T b = true := by
  simp only [goalB] at hg
  simp at hg
  have ha := (l3T_iff a).1 hg.1.1; have hb := (l3T_iff b).1 hg.1.2
  skip
  unfold whole_less
  exact ⟨by simp [ha.1, hb.1, hg.2], hg.1.1, hg.1.2⟩

set_option maxRecDepth 100000 in
theorem goalText_of_less {lo : Nat} {a b c : List C} {w : World} {v : Value} (hv : Goal_less lo w.heap.size a b c w v) (hg : goalB 4 a b c = true) (hT : TenT w) :
    ∀ W, Below w.heap.size w W → Calls Tryd.prog 22 #[v] W fun e w' => e = .returned (.string (gX 4 a b c)) ∧ Below W.heap.size W w' := by
  intro W hW
  have HX : gX 4 a b c = textT a ++ ({ data := #[32, 60, 32] } : ByteArray) ++ textT b := by unfold gX; rw [hg]; rfl
  rw [HX]
  obtain ⟨hw, la, lb⟩ := goalB_less hg
  rcases hv with ⟨_, p, q, rfl, Ta, Tb⟩ | ⟨hn, _⟩
  · exact goalText_less p q a b W (fun W2 h2 => txtAt_of Ta ((l3T_iff a).1 la).1 hT W2 (bstep hW h2)) (textT_size la) (fun W2 h2 => txtAt_of Tb ((l3T_iff b).1 lb).1 hT W2 (bstep hW h2)) (textT_size lb)
  · rw [hw] at hn; cases hn

set_option maxRecDepth 100000 in
set_option maxHeartbeats 2000000 in
theorem implGoalText_less (xa ya za : Option Addr) (xc yc zc : Nat) (a b c : List C) (w : World) (h : Trip w xa ya za a b c) (h1 : a.length ≤ xc ∧ xc ≤ maxLen) (h2 : b.length ≤ yc ∧ yc ≤ maxLen) (h3 : c.length ≤ zc ∧ zc ≤ maxLen) (hT : TenT w) :
    Calls Tryd.prog 8 #[.agg #[.int .i64 4, .slice xa a.length xc, .slice ya b.length yc, .slice za c.length zc]] w fun e w' => e = .returned (.string (gX 4 a b c)) ∧ Below w.heap.size w w' := by
  have H := hide (fun (W : World) (hW : Below w.heap.size w W) => goalOf_less xa ya za xc yc zc a b c W (h.below hW) h1 h2 h3)
  have HTT := hide (fun (W : World) (hW : Below w.heap.size w W) => hT.below hW)
  clear h h1 h2 h3 hT
  have hb0 := cell_below w (.cells #[.int .i64 4, .slice xa a.length xc, .slice ya b.length yc, .slice za c.length zc] 29)
  go_enter Tryd.func8, Tryd.ntmps8
  cases hg : goalB 4 a b c with
  | false =>
    have HE := hide (show gX 4 a b c = ByteArray.empty from by unfold gX; rw [hg]; rfl)
    go_wp2_with (first
      | (go_at_call 20; refine (unhide H _ hb0).mono ?_; rintro e w1 ⟨v, rfl, hv, hb1⟩; clear H; have HM := hide (mayStand_of_less _ _ a b c w1 v (Nat.le_refl _) hv); rw [hg] at HM)
      | (go_at_call 21; refine (unhide HM).mono ?_; rintro e w2 ⟨rfl, hb2⟩))
    go_ret
    exact ⟨by rw [unhide HE]; rfl, bstep (bstep hb0 hb1) hb2⟩
  | true =>
    go_wp2_with (first
      | (go_at_call 20; refine (unhide H _ hb0).mono ?_; rintro e w1 ⟨v, rfl, hv, hb1⟩; clear H; have HM := hide (mayStand_of_less _ _ a b c w1 v (Nat.le_refl _) hv); rw [hg] at HM; have HX := hide (goalText_of_less hv hg (unhide HTT w1 (bstep hb0 hb1))))
      | (go_at_call 21; refine (unhide HM).mono ?_; rintro e w2 ⟨rfl, hb2⟩; have HX2 := hide (unhide HX w2 hb2))
      | (go_at_call 22; refine (unhide HX2).mono ?_; rintro e w3 ⟨rfl, hb3⟩))
    go_ret
    exact ⟨rfl, bstep (bstep (bstep hb0 hb1) hb2) hb3⟩

theorem goalB_plus {a b c : List C} (hg : goalB 5 a b c = true) : whole_plus a b c = true ∧ l3T a = true ∧ l3T b = true ∧ l3T c = true := by
  simp only [goalB] at hg
  simp at hg
  have ha := (l3T_iff a).1 hg.1.1; have hb := (l3T_iff b).1 hg.1.2
  have hc := (l3T_iff c).1 hg.2
  unfold whole_plus
  exact ⟨by simp [ha.1, hb.1, hc.1], hg.1.1, hg.1.2, hg.2⟩

set_option maxRecDepth 100000 in
theorem goalText_of_plus {lo : Nat} {a b c : List C} {w : World} {v : Value} (hv : Goal_plus lo w.heap.size a b c w v) (hg : goalB 5 a b c = true) (hT : TenT w) :
    ∀ W, Below w.heap.size w W → Calls Tryd.prog 22 #[v] W fun e w' => e = .returned (.string (gX 5 a b c)) ∧ Below W.heap.size W w' := by
  intro W hW
  have HX : gX 5 a b c = textT a ++ ({ data := #[32, 43, 32] } : ByteArray) ++ textT b ++ ({ data := #[32, 61, 32] } : ByteArray) ++ textT c := by unfold gX; rw [hg]; rfl
  rw [HX]
  obtain ⟨hw, la, lb, lc⟩ := goalB_plus hg
  rcases hv with ⟨_, p, q, r, rfl, Ta, Tb, Tc⟩ | ⟨hn, _⟩
  · exact goalText_plus p q r a b c W (fun W2 h2 => txtAt_of Ta ((l3T_iff a).1 la).1 hT W2 (bstep hW h2)) (textT_size la) (fun W2 h2 => txtAt_of Tb ((l3T_iff b).1 lb).1 hT W2 (bstep hW h2)) (textT_size lb) (fun W2 h2 => txtAt_of Tc ((l3T_iff c).1 lc).1 hT W2 (bstep hW h2)) (textT_size lc)
  · rw [hw] at hn; cases hn

set_option maxRecDepth 100000 in
set_option maxHeartbeats 2000000 in
theorem implGoalText_plus (xa ya za : Option Addr) (xc yc zc : Nat) (a b c : List C) (w : World) (h : Trip w xa ya za a b c) (h1 : a.length ≤ xc ∧ xc ≤ maxLen) (h2 : b.length ≤ yc ∧ yc ≤ maxLen) (h3 : c.length ≤ zc ∧ zc ≤ maxLen) (hT : TenT w) :
    Calls Tryd.prog 8 #[.agg #[.int .i64 5, .slice xa a.length xc, .slice ya b.length yc, .slice za c.length zc]] w fun e w' => e = .returned (.string (gX 5 a b c)) ∧ Below w.heap.size w w' := by
  have H := hide (fun (W : World) (hW : Below w.heap.size w W) => goalOf_plus xa ya za xc yc zc a b c W (h.below hW) h1 h2 h3)
  have HTT := hide (fun (W : World) (hW : Below w.heap.size w W) => hT.below hW)
  clear h h1 h2 h3 hT
  have hb0 := cell_below w (.cells #[.int .i64 5, .slice xa a.length xc, .slice ya b.length yc, .slice za c.length zc] 29)
  go_enter Tryd.func8, Tryd.ntmps8
  cases hg : goalB 5 a b c with
  | false =>
    have HE := hide (show gX 5 a b c = ByteArray.empty from by unfold gX; rw [hg]; rfl)
    go_wp2_with (first
      | (go_at_call 20; refine (unhide H _ hb0).mono ?_; rintro e w1 ⟨v, rfl, hv, hb1⟩; clear H; have HM := hide (mayStand_of_plus _ _ a b c w1 v (Nat.le_refl _) hv); rw [hg] at HM)
      | (go_at_call 21; refine (unhide HM).mono ?_; rintro e w2 ⟨rfl, hb2⟩))
    go_ret
    exact ⟨by rw [unhide HE]; rfl, bstep (bstep hb0 hb1) hb2⟩
  | true =>
    go_wp2_with (first
      | (go_at_call 20; refine (unhide H _ hb0).mono ?_; rintro e w1 ⟨v, rfl, hv, hb1⟩; clear H; have HM := hide (mayStand_of_plus _ _ a b c w1 v (Nat.le_refl _) hv); rw [hg] at HM; have HX := hide (goalText_of_plus hv hg (unhide HTT w1 (bstep hb0 hb1))))
      | (go_at_call 21; refine (unhide HM).mono ?_; rintro e w2 ⟨rfl, hb2⟩; have HX2 := hide (unhide HX w2 hb2))
      | (go_at_call 22; refine (unhide HX2).mono ?_; rintro e w3 ⟨rfl, hb3⟩))
    go_ret
    exact ⟨rfl, bstep (bstep (bstep hb0 hb1) hb2) hb3⟩

set_option maxRecDepth 100000 in
set_option maxHeartbeats 2000000 in
theorem implGoalText_exit (xa ya za : Option Addr) (xc yc zc : Nat) (a b c : List C) (w : World) (h : Trip w xa ya za a b c) (h1 : a.length ≤ xc ∧ xc ≤ maxLen) (h2 : b.length ≤ yc ∧ yc ≤ maxLen) (h3 : c.length ≤ zc ∧ zc ≤ maxLen) :
    Calls Tryd.prog 8 #[.agg #[.int .i64 6, .slice xa a.length xc, .slice ya b.length yc, .slice za c.length zc]] w fun e w' => e = .returned (.string (gX 6 a b c)) ∧ Below w.heap.size w w' := by
  have H := hide (fun (W : World) (hW : Below w.heap.size w W) => goalOf_exit xa ya za xc yc zc a b c W (h.below hW) h1 h2 h3)
  clear h h1 h2 h3
  have hg : goalB 6 a b c = false := by unfold goalB; simp
  have HE := hide (show gX 6 a b c = ByteArray.empty from by unfold gX; rw [hg]; rfl)
  have hb0 := cell_below w (.cells #[.int .i64 6, .slice xa a.length xc, .slice ya b.length yc, .slice za c.length zc] 29)
  go_enter Tryd.func8, Tryd.ntmps8
  go_wp2_with (first
    | (go_at_call 20; refine (unhide H _ hb0).mono ?_; rintro e w1 ⟨v, rfl, hv, hb1⟩; clear H; have HM := hide (mayStand_of_exit _ _ a b c w1 v (Nat.le_refl _) hv); rw [hg] at HM)
    | (go_at_call 21; refine (unhide HM).mono ?_; rintro e w2 ⟨rfl, hb2⟩))
  go_ret
  exact ⟨by rw [unhide HE]; rfl, bstep (bstep hb0 hb1) hb2⟩
set_option maxRecDepth 100000 in
set_option maxHeartbeats 2000000 in
theorem implGoalText_any (k : Int) (xa ya za : Option Addr) (xc yc zc : Nat) (a b c : List C) (w : World) (h : Trip w xa ya za a b c) (h1 : a.length ≤ xc ∧ xc ≤ maxLen) (h2 : b.length ≤ yc ∧ yc ≤ maxLen) (h3 : c.length ≤ zc ∧ zc ≤ maxLen) (hT : TenT w) :
    Calls Tryd.prog 8 #[.agg #[.int .i64 k, .slice xa a.length xc, .slice ya b.length yc, .slice za c.length zc]] w fun e w' => e = .returned (.string (gX k a b c)) ∧ Below w.heap.size w w' := by
  by_cases k1 : k = 1
  · subst k1; exact implGoalText_call xa ya za xc yc zc a b c w h h1 h2 h3 hT
  by_cases k2 : k = 2
  · subst k2; exact implGoalText_same xa ya za xc yc zc a b c w h h1 h2 h3 hT
  by_cases k3 : k = 3
  · subst k3; exact implGoalText_cut xa ya za xc yc zc a b c w h h1 h2 h3 hT
  by_cases k4 : k = 4
  · subst k4; exact implGoalText_less xa ya za xc yc zc a b c w h h1 h2 h3 hT
  by_cases k5 : k = 5
  · subst k5; exact implGoalText_plus xa ya za xc yc zc a b c w h h1 h2 h3 hT
  by_cases k6 : k = 6
  · subst k6; exact implGoalText_exit xa ya za xc yc zc a b c w h h1 h2 h3
  have hg : goalB k a b c = false := by unfold goalB; rw [if_neg k1, if_neg k3, if_neg (by omega), if_neg k5]
  have HE := hide (show gX k a b c = ByteArray.empty from by unfold gX; rw [hg]; rfl)
  have H := hide (fun (W : World) (hW : Below w.heap.size w W) => goalOf_other k (by omega) xa ya za xc yc zc a b c W (h.below hW) h1 h2 h3)
  have HM := hide (fun (W : World) => mayStand_nil W)
  clear hg h h1 h2 h3 k1 k2 k3 k4 k5 k6
  have hb0 := cell_below w (.cells #[.int .i64 k, .slice xa a.length xc, .slice ya b.length yc, .slice za c.length zc] 29)
  go_enter Tryd.func8, Tryd.ntmps8
  go_wp2_with (first
    | (go_at_call 20; refine (unhide H _ hb0).mono ?_; rintro e w1 ⟨rfl, hb1⟩; clear H)
    | (go_at_call 21; refine (unhide HM w1).mono ?_; rintro e w2 ⟨rfl, rfl⟩; clear HM))
  go_ret
  exact ⟨by rw [unhide HE]; rfl, bstep hb0 hb1⟩
end Go.Proofs.YtajkmebjmdolaaaDoor
