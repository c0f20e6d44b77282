/- The specification's PrgOk. -/
import Derived.Test.YtpfoaleehdiahaaQQP4
import Derived.Test.YtpfoaleehdiahaaQW18GI6
import Derived.Test.YtpfoaleehdiahaaQW2
import Derived.Test.YtpfoaleehdiahaaQW3
import Derived.Deep.QuietTactic
import Derived.BigQuiet
namespace Go.Proofs.Ytpfoaleehdiahaa
open Go.RowKit
set_option linter.unusedVariables false
set_option linter.unusedSimpArgs false

/-- A clause may stand in a program. -/
def clB (x : Cl) : Bool := l3T x.h && callT x.h && decide (x.g.length ≤ 4) && x.g.all (fun g => goalB g.k g.a g.b g.c)
/-- It is ok where a name is called. -/
def pcB (x : Pc) : Bool := nameB x.s && decide (0 ≤ x.n ∧ x.n ≤ 3) && decide (1 ≤ x.d ∧ x.d ≤ 2)
def SameP (x y : Pc) : Prop := x.s = y.s ∧ x.n = y.n
def PcAt (ps : List Pc) (k : Nat) (y : Pc) : Prop := pcB y = true ∧ ∀ j, (h : j < ps.length) → j < k → ¬ SameP ps[j] y
def PrgGood (p : Pg) : Prop := p.cs.length ≤ 12 ∧ p.ps.length ≤ 6 ∧ (∀ c ∈ p.cs, clB c = true) ∧ ∀ k, (h : k < p.ps.length) → PcAt p.ps k p.ps[k]
noncomputable def prgB (p : Pg) : Bool := @decide (PrgGood p) (Classical.propDecidable _)
theorem prgB_yes {p : Pg} (h : PrgGood p) : prgB p = true := by unfold prgB; simpa using h
theorem prgB_no {p : Pg} (h : ¬ PrgGood p) : prgB p = false := by unfold prgB; simpa using h

set_option maxRecDepth 100000 in
set_option maxHeartbeats 1000000 in
theorem l3Place_any (x : Pc) (v0 v1 v2 : Value) (w : World) (hv : PcV w x v0 v1 v2) (hF : FitPc x) :
    Calls Try.prog 96 #[.agg #[v0, v1, v2]] w fun e w' => e = .returned (.bool (pcB x)) ∧ Below w.heap.size w w' := by
  obtain ⟨rfl, rfl, rfl⟩ := hv
  have hs := hF.1
  clear hF
  obtain ⟨hb0, d0, d1, d2⟩ := three_new w (.string x.s) (.int .i64 x.n) (.int .i64 x.d) 143
  have H1 := hide (fun (W : World) => l1Name_any x.s W hs)
  have H2 := hide (fun (W : World) => l1In_any x.n 0 3 W)
  have H3 := hide (fun (W : World) => l1In_any x.d 1 2 W)
  have HE : Hid (pcB x = (nameB x.s && decide (0 ≤ x.n ∧ x.n ≤ 3) && decide (1 ≤ x.d ∧ x.d ≤ 2))) := rfl
  obtain ⟨a, ea⟩ : ∃ a, a = nameB x.s := ⟨_, rfl⟩
  obtain ⟨b, eb⟩ : ∃ b, b = decide (0 ≤ x.n ∧ x.n ≤ 3) := ⟨_, rfl⟩
  obtain ⟨c, ec⟩ : ∃ c, c = decide (1 ≤ x.d ∧ x.d ≤ 2) := ⟨_, rfl⟩
  rw [← ea] at H1
  rw [← eb] at H2
  rw [← ec] at H3
  rw [← ea, ← eb, ← ec] at HE
  clear ea eb ec hs
  cases a with
  | false =>
    go_enter Try.func96, Try.ntmps96
    go_wp2_with (go_at_call 135; refine (unhide H1 _).mono ?_; rintro e w1 ⟨rfl, rfl⟩)
    go_ret
    exact ⟨by rw [unhide HE]; rfl, hb0⟩
  | true =>
    cases b with
    | false =>
      go_enter Try.func96, Try.ntmps96
      go_wp2_with (first
        | (go_at_call 135; refine (unhide H1 _).mono ?_; rintro e w1 ⟨rfl, rfl⟩)
        | (go_at_call 136; refine (unhide H2 _).mono ?_; rintro e w2 ⟨rfl, rfl⟩))
      go_ret
      exact ⟨by rw [unhide HE]; rfl, hb0⟩
    | true =>
      go_enter Try.func96, Try.ntmps96
      go_wp2_with (first
        | (go_at_call 135; refine (unhide H1 _).mono ?_; rintro e w1 ⟨rfl, rfl⟩)
        | (go_at_call 136; refine (unhide H2 _).mono ?_; rintro e w2 ⟨rfl, rfl⟩; clear H2)
        | (go_at_call 136; refine (unhide H3 _).mono ?_; rintro e w3 ⟨rfl, rfl⟩))
      go_ret
      exact ⟨by rw [unhide HE]; simp, hb0⟩

theorem specGl_any (x : Gl) (v0 v1 v2 v3 : Value) (w : World) (hF : FitGl x) (hs : szGl x ≤ 1048576) (hv : GlV w x v0 v1 v2 v3) :
    Calls Try.prog 134 #[.agg #[v0, v1, v2, v3]] w fun e w' => e = .returned (.bool (goalB x.k x.a x.b x.c)) ∧ Below w.heap.size w w' := by
  unfold szGl at hs
  obtain ⟨rfl, ⟨xa, xc, rfl, a1, a2, hA⟩, ⟨ya, yc, rfl, b1, b2, hB⟩, ⟨za, zc, rfl, c1, c2, hC⟩⟩ := hv
  exact specGoalOk_any x.k xa ya za xc yc zc x.a x.b x.c w ⟨hA, hB, hC, hF.1.1, hF.2.1.1, hF.2.2.1, by omega, by omega, by omega⟩

/-- The goals so far may stand. -/
def GoodUp (s : List Gl) (k : Nat) : Prop := ∀ j, (h : j < s.length) → j < k → goalB s[j].k s[j].a s[j].b s[j].c = true
theorem goodUp_all {s : List Gl} (h : GoodUp s s.length) : s.all (fun g => goalB g.k g.a g.b g.c) = true := by
  rw [List.all_eq_true]
  intro g hg
  obtain ⟨j, hj, rfl⟩ := List.getElem_of_mem hg
  exact h j hj hj
theorem goodUp_no {s : List Gl} {k : Nat} (hk : k < s.length) (h : goalB s[k].k s[k].a s[k].b s[k].c = false) : s.all (fun g => goalB g.k g.a g.b g.c) = false := by
  cases e : s.all (fun g => goalB g.k g.a g.b g.c) with
  | false => rfl
  | true => rw [List.all_eq_true] at e; have := e _ (List.getElem_mem hk); rw [h] at this; cases this
theorem goodUp_succ {s : List Gl} {k : Nat} (h : GoodUp s k) (hk : k < s.length) (hg : goalB s[k].k s[k].a s[k].b s[k].c = true) : GoodUp s (k + 1) := fun j hj hjk => by
  by_cases e : j < k
  · exact h j hj e
  · obtain rfl : j = k := by omega
    exact hg

set_option maxRecDepth 100000 in
set_option maxHeartbeats 2000000 in
theorem l3Clause_any (x : Cl) (v0 v1 : Value) (w : World) (hF : FitCl x) (hs : szCl x ≤ 1048576) (hv : ClV w x v0 v1) :
    Calls Try.prog 95 #[.agg #[v0, v1]] w fun e w' => e = .returned (.bool (clB x)) ∧ Below w.heap.size w w' := by
  unfold szCl at hs
  obtain ⟨⟨xa, xc, rfl, a1, a2, hA⟩, ⟨ya, yc, rfl, b1, b2, hB⟩⟩ := hv
  obtain ⟨hb0, d0, d1⟩ := two_new w (.slice xa x.h.length xc) (.slice ya x.g.length yc) 141
  have hgl : x.g.length ≤ 1048576 := by omega
  have H1 := hide (fun (W : World) (hW : Below w.heap.size w W) => l3Term_any xa xc x.h W (Nat.le_trans a1 a2) (hA.below hW) hF.1.1)
  have H2 := hide (fun (W : World) (hW : Below w.heap.size w W) => l3Call_any xa xc x.h W (Nat.le_trans a1 a2) (hA.below hW))
  have HE : Hid (clB x = (l3T x.h && callT x.h && decide (x.g.length ≤ 4) && x.g.all (fun g => goalB g.k g.a g.b g.c))) := rfl
  have HB := hide (fun (W : World) (hW : Below w.heap.size w W) => hB.below hW)
  have HG := hide (fun (k : Nat) (hk : k < x.g.length) (v0 v1 v2 v3 : Value) (W : World) (hv : GlV W x.g[k] v0 v1 v2 v3) => specGl_any x.g[k] v0 v1 v2 v3 W (hF.2 _ (List.getElem_mem hk)) (Nat.le_trans (totG_mem (List.getElem_mem hk)) (by omega)) hv)
  obtain ⟨a, ea⟩ : ∃ a, a = l3T x.h := ⟨_, rfl⟩
  obtain ⟨b, eb⟩ : ∃ b, b = callT x.h := ⟨_, rfl⟩
  rw [← ea] at H1 HE
  rw [← eb] at H2 HE
  clear ea eb hA hB a1 a2 b1 b2 hs hF
  cases a with
  | false =>
    go_enter Try.func95, Try.ntmps95
    go_wp2_with (go_at_call 133; refine (unhide H1 _ hb0).mono ?_; rintro e w1 ⟨rfl, hb1⟩)
    go_ret
    exact ⟨by rw [unhide HE]; rfl, bstep hb0 hb1⟩
  | true =>
    generalize hw0 : w.alloc (.cells #[.slice xa x.h.length xc, .slice ya x.g.length yc] 141) = w0 at hb0 d0 d1
    have hl0 : w.heap.size < w0.heap.size := World.block_lt_of_cell? w0 ⟨_, _, none⟩ d1
    cases b with
    | false =>
      go_enter Try.func95, Try.ntmps95
      go_wp2_with fail
      refine (unhide H1 _ hb0).mono ?_
      rintro e w1 ⟨rfl, hb1⟩
      have e0 := (hb1.cell (p := ⟨w.heap.size, 0, none⟩) hl0).trans d0
      have e1 := (hb1.cell (p := ⟨w.heap.size, 1, none⟩) hl0).trans d1
      have hB1 := bstep hb0 hb1
      clear hw0
      go_wp2_with (go_at_call 44; refine (unhide H2 _ hB1).mono ?_; rintro e w2 ⟨rfl, rfl⟩)
      go_ret
      exact ⟨by rw [unhide HE]; rfl, hB1⟩
    | true =>
      go_enter Try.func95, Try.ntmps95
      go_wp2_with fail
      refine (unhide H1 _ hb0).mono ?_
      rintro e w1 ⟨rfl, hb1⟩
      have e0 := (hb1.cell (p := ⟨w.heap.size, 0, none⟩) hl0).trans d0
      have e1 := (hb1.cell (p := ⟨w.heap.size, 1, none⟩) hl0).trans d1
      have hB1 := bstep hb0 hb1
      have hl1 : w.heap.size < w1.heap.size := World.block_lt_of_cell? w1 ⟨_, _, none⟩ e1
      clear hw0 d0 d1 hb1
      by_cases h4 : x.g.length ≤ 4
      · have HE2 : Hid (clB x = x.g.all (fun g => goalB g.k g.a g.b g.c)) := by show _ = _; rw [unhide HE]; simp [h4]
        have HH2 := hide (unhide H2 w1 hB1)
        go_wp2_with (go_at_call 44; refine (unhide HH2).mono ?_; rintro e w2 ⟨rfl, rfl⟩)
        go_loopw [3] (fun i wr => ∃ (k : Nat), k ≤ x.g.length ∧ i = .int .i64 k ∧ GoodUp x.g k ∧ Below w2.heap.size w2 wr) (fun i _ => x.g.length - (intOf i).toNat)
        case atStart => exact ⟨0, Nat.zero_le _, rfl, fun j _ h => absurd h (Nat.not_lt_zero _), Below.refl _ _⟩
        case round =>
          obtain ⟨k, hk, rfl, hgu, hBr⟩ := hrel
          have HGU := hide hgu
          clear hgu
          have c0 := (hBr.cell (p := ⟨w.heap.size, 0, none⟩) hl1).trans e0
          have c1 := (hBr.cell (p := ⟨w.heap.size, 1, none⟩) hl1).trans e1
          have hBw := bstep hB1 hBr
          by_cases hlt : k < x.g.length
          · rcases unhide HB wr hBw with e | ⟨b, off, rfl, hA⟩
            · rw [e] at hlt; simp at hlt
            obtain ⟨v0, v1, v2, v3, g0, g1, g2, g3, hv⟩ := hA k hlt
            have HC := hide (unhide HG k hlt v0 v1 v2 v3 wr hv)
            have HNO := hide (goodUp_no hlt)
            have HSU := hide (goodUp_succ (unhide HGU) hlt)
            clear hv hA
            cases hgo : goalB x.g[k].k x.g[k].a x.g[k].b x.g[k].c with
            | false =>
              rw [hgo] at HC
              have HN := hide (unhide HNO hgo)
              clear HNO HSU hgo
              go_wp2_with (go_at_call 134; refine (unhide HC).mono ?_; rintro e w3 ⟨rfl, hb3⟩)
              go_ret
              exact ⟨by rw [unhide HE2, unhide HN]; rfl, bstep hBw hb3⟩
            | true =>
              rw [hgo] at HC
              have HS := hide (unhide HSU hgo)
              clear HNO HSU hgo
              go_wp2_with (go_at_call 134; refine (unhide HC).mono ?_; rintro e w3 ⟨rfl, hb3⟩)
              go_roundw
              case rel => exact ⟨k + 1, by omega, by go_num, unhide HS, bstep hBr hb3⟩
              case measure => simp [intOf]; omega
          · have e : k = x.g.length := by omega
            subst e
            go_wp2
            go_ret
            exact ⟨by rw [unhide HE2, goodUp_all (unhide HGU)]; rfl, hBw⟩
      · have HE2 : Hid (clB x = false) := by show _ = _; rw [unhide HE]; simp [h4]
        have h5 : 4 < (x.g.length : Int) := by omega
        have HH2 := hide (unhide H2 w1 hB1)
        go_wp2_with (go_at_call 44; refine (unhide HH2).mono ?_; rintro e w2 ⟨rfl, rfl⟩)
        go_ret
        exact ⟨by rw [unhide HE2]; rfl, hB1⟩
end Go.Proofs.Ytpfoaleehdiahaa
