import Derived.Test.YtkedckmpjedjoaaQQP4
import Derived.Test.YtkedckmpjedjoaaQW18GI6GI6call
import Derived.Test.YtkedckmpjedjoaaQW15W16W2
import Derived.Test.YtkedckmpjedjoaaQW3W4W6
import Derived.Deep.QuietTactic
import Derived.BigQuiet
/- The specification's PrgOk. -/
namespace Go.Proofs.Ytkedckmpjedjoaa
open Go.RowKit
set_option linter.unusedVariables false
set_option linter.unusedSimpArgs false

/-- A clause may stand in a program. -/
def clB (x : Cl) : Bool := l3T x.h && callT x.h && decide (x.g.length ≤ 4) && x.g.all (fun g => goalB g.k g.a g.b g.c)
/-- It is ok where a name is called. -/
def pcB (x : Pc) : Bool := nameB x.s && decide (0 ≤ x.n ∧ x.n ≤ 3) && decide (1 ≤ x.d ∧ x.d ≤ 2)
def SameP (x y : Pc) : Prop := x.s = y.s ∧ x.n = y.n
def PcAt (ps : List Pc) (k : Nat) (y : Pc) : Prop := pcB y = true ∧ ∀ j, (h : j < ps.length) → j < k → ¬ SameP ps[j] y
def PrgGood (p : Pg) : Prop := p.cs.length ≤ 12 ∧ p.ps.length ≤ 6 ∧ (∀ c ∈ p.cs, clB c = true) ∧ ∀ k, (h : k < p.ps.length) → PcAt p.ps k p.ps[k]
noncomputable def prgB (p : Pg) : Bool := @decide (PrgGood p) (Classical.propDecidable _)
theorem prgB_yes {p : Pg} (h : PrgGood p) : prgB p = true := by unfold prgB; simpa using h
theorem prgB_no {p : Pg} (h : ¬ PrgGood p) : prgB p = false := by unfold prgB; simpa using h

set_option maxRecDepth 100000 in
set_option maxHeartbeats 1000000 in
theorem l3Place_any (x : Pc) (v0 v1 v2 : Value) (w : World) (hv : PcV w x v0 v1 v2) (hF : FitPc x) :
    Calls Try.prog 99 #[.agg #[v0, v1, v2]] w fun e w' => e = .returned (.bool (pcB x)) ∧ Below w.heap.size w w' := by
  obtain ⟨rfl, rfl, rfl⟩ := hv
  have hs := hF.1
  clear hF
  obtain ⟨hb0, d0, d1, d2⟩ := three_new w (.string x.s) (.int .i64 x.n) (.int .i64 x.d) 144
  have H1 := hide (fun (W : World) => l1Name_any x.s W hs)
  have H2 := hide (fun (W : World) => l1In_any x.n 0 3 W)
  have H3 := hide (fun (W : World) => l1In_any x.d 1 2 W)
  have HE : Hid (pcB x = (nameB x.s && decide (0 ≤ x.n ∧ x.n ≤ 3) && decide (1 ≤ x.d ∧ x.d ≤ 2))) := rfl
  obtain ⟨a, ea⟩ : ∃ a, a = nameB x.s := ⟨_, rfl⟩
  obtain ⟨b, eb⟩ : ∃ b, b = decide (0 ≤ x.n ∧ x.n ≤ 3) := ⟨_, rfl⟩
  obtain ⟨c, ec⟩ : ∃ c, c = decide (1 ≤ x.d ∧ x.d ≤ 2) := ⟨_, rfl⟩
  rw [← ea] at H1
  rw [← eb] at H2
  rw [← ec] at H3
  rw [← ea, ← eb, ← ec] at HE
  clear ea eb ec hs
  cases a with
  | false =>
    go_enter Try.func99, Try.ntmps99
    go_wp2_with (go_at_call 142; refine (unhide H1 _).mono ?_; rintro e w1 ⟨rfl, rfl⟩)
    go_ret
    exact ⟨by rw [unhide HE]; rfl, hb0⟩
  | true =>
    cases b with
    | false =>
      go_enter Try.func99, Try.ntmps99
      go_wp2_with (first
        | (go_at_call 142; refine (unhide H1 _).mono ?_; rintro e w1 ⟨rfl, rfl⟩)
        | (go_at_call 143; refine (unhide H2 _).mono ?_; rintro e w2 ⟨rfl, rfl⟩))
      go_ret
      exact ⟨by rw [unhide HE]; rfl, hb0⟩
    | true =>
      go_enter Try.func99, Try.ntmps99
      go_wp2_with (first
        | (go_at_call 142; refine (unhide H1 _).mono ?_; rintro e w1 ⟨rfl, rfl⟩)
        | (go_at_call 143; refine (unhide H2 _).mono ?_; rintro e w2 ⟨rfl, rfl⟩; clear H2)
        | (go_at_call 143; refine (unhide H3 _).mono ?_; rintro e w3 ⟨rfl, rfl⟩))
      go_ret
      exact ⟨by rw [unhide HE]; simp, hb0⟩

theorem specGl_any (x : Gl) (v0 v1 v2 v3 : Value) (w : World) (hF : FitGl x) (hs : szGl x ≤ 1048576) (hv : GlV w x v0 v1 v2 v3) :
    Calls Try.prog 141 #[.agg #[v0, v1, v2, v3]] w fun e w' => e = .returned (.bool (goalB x.k x.a x.b x.c)) ∧ Below w.heap.size w w' := by
  unfold szGl at hs
  obtain ⟨rfl, ⟨xa, xc, rfl, a1, a2, hA⟩, ⟨ya, yc, rfl, b1, b2, hB⟩, ⟨za, zc, rfl, c1, c2, hC⟩⟩ := hv
  exact specGoalOk_any x.k xa ya za xc yc zc x.a x.b x.c w ⟨hA, hB, hC, hF.1.1, hF.2.1.1, hF.2.2.1, by omega, by omega, by omega⟩

/-- The goals so far may stand. -/
def GoodUp (s : List Gl) (k : Nat) : Prop := ∀ j, (h : j < s.length) → j < k → goalB s[j].k s[j].a s[j].b s[j].c = true
theorem goodUp_all {s : List Gl} (h : GoodUp s s.length) : s.all (fun g => goalB g.k g.a g.b g.c) = true := by
  rw [List.all_eq_true]
  intro g hg
  obtain ⟨j, hj, rfl⟩ := List.getElem_of_mem hg
  exact h j hj hj
theorem goodUp_no {s : List Gl} {k : Nat} (hk : k < s.length) (h : goalB s[k].k s[k].a s[k].b s[k].c = false) : s.all (fun g => goalB g.k g.a g.b g.c) = false := by
  cases e : s.all (fun g => goalB g.k g.a g.b g.c) with
  | false => rfl
  | true => rw [List.all_eq_true] at e; have := e _ (List.getElem_mem hk); rw [h] at this; cases this
theorem goodUp_succ {s : List Gl} {k : Nat} (h : GoodUp s k) (hk : k < s.length) (hg : goalB s[k].k s[k].a s[k].b s[k].c = true) : GoodUp s (k + 1) := fun j hj hjk => by
  by_cases e : j < k
  · exact h j hj e
  · obtain rfl : j = k := by omega
    exact hg

set_option maxRecDepth 100000 in
set_option maxHeartbeats 2000000 in
theorem l3Clause_any (x : Cl) (v0 v1 : Value) (w : World) (hF : FitCl x) (hs : szCl x ≤ 1048576) (hv : ClV w x v0 v1) :
    Calls Try.prog 98 #[.agg #[v0, v1]] w fun e w' => e = .returned (.bool (clB x)) ∧ Below w.heap.size w w' := by
  unfold szCl at hs
  obtain ⟨⟨xa, xc, rfl, a1, a2, hA⟩, ⟨ya, yc, rfl, b1, b2, hB⟩⟩ := hv
  obtain ⟨hb0, d0, d1⟩ := two_new w (.slice xa x.h.length xc) (.slice ya x.g.length yc) 142
  have hgl : x.g.length ≤ 1048576 := by omega
  have H1 := hide (fun (W : World) (hW : Below w.heap.size w W) => l3Term_any xa xc x.h W (Nat.le_trans a1 a2) (hA.below hW) hF.1.1)
  have H2 := hide (fun (W : World) (hW : Below w.heap.size w W) => l3Call_any xa xc x.h W (Nat.le_trans a1 a2) (hA.below hW))
  have HE : Hid (clB x = (l3T x.h && callT x.h && decide (x.g.length ≤ 4) && x.g.all (fun g => goalB g.k g.a g.b g.c))) := rfl
  have HB := hide (fun (W : World) (hW : Below w.heap.size w W) => hB.below hW)
  have HG := hide (fun (k : Nat) (hk : k < x.g.length) (v0 v1 v2 v3 : Value) (W : World) (hv : GlV W x.g[k] v0 v1 v2 v3) => specGl_any x.g[k] v0 v1 v2 v3 W (hF.2 _ (List.getElem_mem hk)) (Nat.le_trans (totG_mem (List.getElem_mem hk)) (by omega)) hv)
  obtain ⟨a, ea⟩ : ∃ a, a = l3T x.h := ⟨_, rfl⟩
  obtain ⟨b, eb⟩ : ∃ b, b = callT x.h := ⟨_, rfl⟩
  rw [← ea] at H1 HE
  rw [← eb] at H2 HE
  clear ea eb hA hB a1 a2 b1 b2 hs hF
  cases a with
  | false =>
    go_enter Try.func98, Try.ntmps98
    go_wp2_with (go_at_call 140; refine (unhide H1 _ hb0).mono ?_; rintro e w1 ⟨rfl, hb1⟩)
    go_ret
    exact ⟨by rw [unhide HE]; rfl, bstep hb0 hb1⟩
  | true =>
    generalize hw0 : w.alloc (.cells #[.slice xa x.h.length xc, .slice ya x.g.length yc] 142) = w0 at hb0 d0 d1
    have hl0 : w.heap.size < w0.heap.size := World.block_lt_of_cell? w0 ⟨_, _, none⟩ d1
    cases b with
    | false =>
      go_enter Try.func98, Try.ntmps98
      go_wp2_with fail
      refine (unhide H1 _ hb0).mono ?_
      rintro e w1 ⟨rfl, hb1⟩
      have e0 := (hb1.cell (p := ⟨w.heap.size, 0, none⟩) hl0).trans d0
      have e1 := (hb1.cell (p := ⟨w.heap.size, 1, none⟩) hl0).trans d1
      have hB1 := bstep hb0 hb1
      clear hw0
      go_wp2_with (go_at_call 113; refine (unhide H2 _ hB1).mono ?_; rintro e w2 ⟨rfl, rfl⟩)
      go_ret
      exact ⟨by rw [unhide HE]; rfl, hB1⟩
    | true =>
      go_enter Try.func98, Try.ntmps98
      go_wp2_with fail
      refine (unhide H1 _ hb0).mono ?_
      rintro e w1 ⟨rfl, hb1⟩
      have e0 := (hb1.cell (p := ⟨w.heap.size, 0, none⟩) hl0).trans d0
      have e1 := (hb1.cell (p := ⟨w.heap.size, 1, none⟩) hl0).trans d1
      have hB1 := bstep hb0 hb1
      have hl1 : w.heap.size < w1.heap.size := World.block_lt_of_cell? w1 ⟨_, _, none⟩ e1
      clear hw0 d0 d1 hb1
      by_cases h4 : x.g.length ≤ 4
      · have HE2 : Hid (clB x = x.g.all (fun g => goalB g.k g.a g.b g.c)) := by show _ = _; rw [unhide HE]; simp [h4]
        have HH2 := hide (unhide H2 w1 hB1)
        go_wp2_with (go_at_call 113; refine (unhide HH2).mono ?_; rintro e w2 ⟨rfl, rfl⟩)
        go_loopw [3] (fun i wr => ∃ (k : Nat), k ≤ x.g.length ∧ i = .int .i64 k ∧ GoodUp x.g k ∧ Below w2.heap.size w2 wr) (fun i _ => x.g.length - (intOf i).toNat)
        case atStart => exact ⟨0, Nat.zero_le _, rfl, fun j _ h => absurd h (Nat.not_lt_zero _), Below.refl _ _⟩
        case round =>
          obtain ⟨k, hk, rfl, hgu, hBr⟩ := hrel
          have HGU := hide hgu
          clear hgu
          have c0 := (hBr.cell (p := ⟨w.heap.size, 0, none⟩) hl1).trans e0
          have c1 := (hBr.cell (p := ⟨w.heap.size, 1, none⟩) hl1).trans e1
          have hBw := bstep hB1 hBr
          by_cases hlt : k < x.g.length
          · rcases unhide HB wr hBw with e | ⟨b, off, rfl, hA⟩
            · rw [e] at hlt; simp at hlt
            obtain ⟨v0, v1, v2, v3, g0, g1, g2, g3, hv⟩ := hA k hlt
            have HC := hide (unhide HG k hlt v0 v1 v2 v3 wr hv)
            have HNO := hide (goodUp_no hlt)
            have HSU := hide (goodUp_succ (unhide HGU) hlt)
            clear hv hA
            cases hgo : goalB x.g[k].k x.g[k].a x.g[k].b x.g[k].c with
            | false =>
              rw [hgo] at HC
              have HN := hide (unhide HNO hgo)
              clear HNO HSU hgo
              go_wp2_with (go_at_call 141; refine (unhide HC).mono ?_; rintro e w3 ⟨rfl, hb3⟩)
              go_ret
              exact ⟨by rw [unhide HE2, unhide HN]; rfl, bstep hBw hb3⟩
            | true =>
              rw [hgo] at HC
              have HS := hide (unhide HSU hgo)
              clear HNO HSU hgo
              go_wp2_with (go_at_call 141; refine (unhide HC).mono ?_; rintro e w3 ⟨rfl, hb3⟩)
              go_roundw
              case rel => exact ⟨k + 1, by omega, by go_num, unhide HS, bstep hBr hb3⟩
              case measure => simp [intOf]; omega
          · have e : k = x.g.length := by omega
            subst e
            go_wp2
            go_ret
            exact ⟨by rw [unhide HE2, goodUp_all (unhide HGU)]; rfl, hBw⟩
      · have HE2 : Hid (clB x = false) := by show _ = _; rw [unhide HE]; simp [h4]
        have h5 : 4 < (x.g.length : Int) := by omega
        have HH2 := hide (unhide H2 w1 hB1)
        go_wp2_with (go_at_call 113; refine (unhide HH2).mono ?_; rintro e w2 ⟨rfl, rfl⟩)
        go_ret
        exact ⟨by rw [unhide HE2]; rfl, hB1⟩
end Go.Proofs.Ytkedckmpjedjoaa

/- The specification's PrgOk. -/
namespace Go.Proofs.Ytkedckmpjedjoaa
open Go.RowKit
set_option linter.unusedVariables false
set_option linter.unusedSimpArgs false

theorem below_dN6 {B : Nat} {a w : World} (h : Below B a w) (n : Nat) : Below B a (w.drewN n) := ⟨h.os, h.tape, h.output, h.size, h.block⟩
def ClUp (s : List Cl) (k : Nat) : Prop := ∀ j, (h : j < s.length) → j < k → clB s[j] = true
theorem clUp_succ {s : List Cl} {k : Nat} (h : ClUp s k) (hk : k < s.length) (hg : clB s[k] = true) : ClUp s (k + 1) := fun j hj hjk => by
  by_cases e : j < k
  · exact h j hj e
  · obtain rfl : j = k := by omega
    exact hg
def PcUp (s : List Pc) (k : Nat) : Prop := ∀ j, (h : j < s.length) → j < k → PcAt s j s[j]
theorem pcUp_succ {s : List Pc} {k : Nat} (h : PcUp s k) (hk : k < s.length) (hg : PcAt s k s[k]) : PcUp s (k + 1) := fun j hj hjk => by
  by_cases e : j < k
  · exact h j hj e
  · obtain rfl : j = k := by omega
    exact hg
def Far (s : List Pc) (y : Pc) (k : Nat) : Prop := ∀ j, (h : j < s.length) → j < k → ¬ SameP s[j] y
theorem far_succ {s : List Pc} {y : Pc} {k : Nat} (h : Far s y k) (hk : k < s.length) (hg : ¬ SameP s[k] y) : Far s y (k + 1) := fun j hj hjk => by
  by_cases e : j < k
  · exact h j hj e
  · obtain rfl : j = k := by omega
    exact hg

set_option maxRecDepth 100000 in
set_option maxHeartbeats 4000000 in
theorem specPrgOk_any (x : Pg) (v0 v1 : Value) (w : World) (hF : FitPg x) (hs : szPg x ≤ 1048576) (hv : PgV w x v0 v1) :
    Calls Try.prog 43 #[.agg #[v0, v1]] w fun e w' => e = .returned (.bool (prgB x)) ∧ Below w.heap.size w w' := by
  unfold szPg at hs
  obtain ⟨⟨xa, xc, rfl, a1, a2, hA⟩, ⟨ya, yc, rfl, b1, b2, hB⟩⟩ := hv
  obtain ⟨hb0, d0, d1⟩ := two_new w (.slice xa x.cs.length xc) (.slice ya x.ps.length yc) 30
  have hcl : x.cs.length ≤ 1048576 := by omega
  have hpl : x.ps.length ≤ 1048576 := by omega
  have HA := hide (fun (W : World) (hW : Below w.heap.size w W) => hA.below hW)
  have HB := hide (fun (W : World) (hW : Below w.heap.size w W) => hB.below hW)
  have HK := hide (fun (k : Nat) (hk : k < x.cs.length) (v0 v1 : Value) (W : World) (hv : ClV W x.cs[k] v0 v1) => l3Clause_any x.cs[k] v0 v1 W (hF.1 _ (List.getElem_mem hk)) (Nat.le_trans (totK_mem (List.getElem_mem hk)) (by omega)) hv)
  have HP := hide (fun (k : Nat) (hk : k < x.ps.length) (v0 v1 v2 : Value) (W : World) (hv : PcV W x.ps[k] v0 v1 v2) => l3Place_any x.ps[k] v0 v1 v2 W hv (hF.2 _ (List.getElem_mem hk)))
  have HN1 := hide (fun (h : ¬ x.cs.length ≤ 12) => prgB_no (p := x) (fun g => h g.1))
  have HN2 := hide (fun (h : ¬ x.ps.length ≤ 6) => prgB_no (p := x) (fun g => h g.2.1))
  have HN3 := hide (fun (k : Nat) (hk : k < x.cs.length) (h : clB x.cs[k] = false) => prgB_no (p := x) (fun g => by have := g.2.2.1 _ (List.getElem_mem hk); rw [h] at this; cases this))
  have HN4 := hide (fun (k : Nat) (hk : k < x.ps.length) (h : ¬ PcAt x.ps k x.ps[k]) => prgB_no (p := x) (fun g => h (g.2.2.2 k hk)))
  have HY := hide (fun (h1 : x.cs.length ≤ 12) (h2 : x.ps.length ≤ 6) (h3 : ClUp x.cs x.cs.length) (h4 : PcUp x.ps x.ps.length) => prgB_yes (p := x) ⟨h1, h2, fun c hc => by obtain ⟨j, hj, rfl⟩ := List.getElem_of_mem hc; exact h3 j hj hj, fun k hk => h4 k hk hk⟩)
  clear hA hB a1 a2 b1 b2 hs hF
  by_cases h12 : x.cs.length ≤ 12
  · by_cases h6 : x.ps.length ≤ 6
    · go_enter Try.func43, Try.ntmps43
      go_wp2
      generalize hw0 : w.alloc (.cells #[.slice xa x.cs.length xc, .slice ya x.ps.length yc] 30) = w0 at hb0 d0 d1 ⊢
      have hl0 : w.heap.size < w0.heap.size := World.block_lt_of_cell? w0 ⟨_, _, none⟩ d1
      clear hw0 HN1 HN2
      go_loopw [3] (fun i wr => ∃ (k : Nat), k ≤ x.cs.length ∧ i = .int .i64 k ∧ ClUp x.cs k ∧ Below w0.heap.size w0 wr) (fun i _ => x.cs.length - (intOf i).toNat)
      case atStart => exact ⟨0, Nat.zero_le _, rfl, fun j _ h => absurd h (Nat.not_lt_zero _), Below.refl _ _⟩
      case round =>
        obtain ⟨k, hk, rfl, hgu, hBr⟩ := hrel
        have HGU := hide hgu
        clear hgu
        have c0 := (hBr.cell (p := ⟨w.heap.size, 0, none⟩) hl0).trans d0
        have c1 := (hBr.cell (p := ⟨w.heap.size, 1, none⟩) hl0).trans d1
        have hBw := bstep hb0 hBr
        by_cases hlt : k < x.cs.length
        · rcases unhide HA wr hBw with e | ⟨b, off, rfl, hA⟩
          · rw [e] at hlt; simp at hlt
          obtain ⟨v0, v1, g0, g1, hv⟩ := hA k hlt
          obtain ⟨pa, pc, e0, _⟩ := hv.1
          obtain ⟨qa, qc, e1, _⟩ := hv.2
          have HC := hide (unhide HK k hlt v0 v1 wr hv)
          have HSU := hide (clUp_succ (unhide HGU) hlt)
          have HNO := hide (unhide HN3 k hlt)
          clear hv hA
          subst e0 e1
          cases hgo : clB x.cs[k] with
          | false =>
            rw [hgo] at HC
            have HN := hide (unhide HNO hgo)
            clear HNO HSU hgo
            go_wp2_with (go_at_call 98; refine (unhide HC).mono ?_; rintro e w3 ⟨rfl, hb3⟩)
            go_ret
            exact ⟨by rw [unhide HN]; rfl, bstep hBw hb3⟩
          | true =>
            rw [hgo] at HC
            have HS := hide (unhide HSU hgo)
            clear HNO HSU hgo
            go_wp2_with (go_at_call 98; refine (unhide HC).mono ?_; rintro e w3 ⟨rfl, hb3⟩)
            go_roundw
            case rel => exact ⟨k + 1, by omega, by go_num, unhide HS, bstep hBr hb3⟩
            case measure => simp [intOf]; omega
        · have e : k = x.cs.length := by omega
          subst e
          have HALL := hide (unhide HGU)
          generalize wr = wm at *
          have hlm : w.heap.size < wm.heap.size := World.block_lt_of_cell? wm ⟨_, _, none⟩ c1
          clear hBr HGU d0 d1 hl0 hb0
          go_wp2
          go_loopw [4] (fun i wr => ∃ (k : Nat), k ≤ x.ps.length ∧ i = .int .i64 k ∧ PcUp x.ps k ∧ Below wm.heap.size wm wr) (fun i _ => x.ps.length - (intOf i).toNat)
          case atStart => exact ⟨0, Nat.zero_le _, rfl, fun j _ h => absurd h (Nat.not_lt_zero _), Below.refl _ _⟩
          case round =>
            obtain ⟨k, hk, rfl, hgu, hBr⟩ := hrel
            have HGU := hide hgu
            clear hgu
            have e0 := (hBr.cell (p := ⟨w.heap.size, 0, none⟩) hlm).trans c0
            have e1 := (hBr.cell (p := ⟨w.heap.size, 1, none⟩) hlm).trans c1
            have hBv := bstep hBw hBr
            by_cases hlt : k < x.ps.length
            · rcases unhide HB wr hBv with e | ⟨b, off, rfl, hA⟩
              · rw [e] at hlt; simp at hlt
              obtain ⟨v0, v1, v2, g0, g1, g2, hv⟩ := hA k hlt
              have HC := hide (unhide HP k hlt v0 v1 v2 wr hv)
              have HSU := hide (pcUp_succ (unhide HGU) hlt)
              have HNO := hide (unhide HN4 k hlt)
              obtain ⟨q0, q1, q2⟩ := hv
              subst q0 q1 q2
              cases hgo : pcB x.ps[k] with
              | false =>
                rw [hgo] at HC
                have HN := hide (unhide HNO (fun h => by have := h.1; rw [hgo] at this; cases this))
                clear HNO HSU hgo hA
                go_wp2_with (go_at_call 99; refine (unhide HC).mono ?_; rintro e w3 ⟨rfl, hb3⟩)
                go_ret
                exact ⟨by rw [unhide HN]; rfl, bstep hBv hb3⟩
              | true =>
                rw [hgo] at HC
                have HGO := hide hgo
                clear hgo
                have hlr : w.heap.size < wr.heap.size := World.block_lt_of_cell? wr ⟨_, _, none⟩ e1
                go_wp2_with (go_at_call 99; refine (unhide HC).mono ?_; rintro e w3 ⟨rfl, hb3⟩)
                have hA3 := hA.below hb3
                replace e0 := (hb3.cell (p := ⟨w.heap.size, 0, none⟩) hlr).trans e0
                replace e1 := (hb3.cell (p := ⟨w.heap.size, 1, none⟩) hlr).trans e1
                have hl3 : w.heap.size < w3.heap.size := World.block_lt_of_cell? w3 ⟨_, _, none⟩ e1
                have hBm3 := bstep hBr hb3
                have hB3 := bstep hBv hb3
                clear HC hA hb3 hBr hBv hlr g0 g1 g2 hlm c0 c1 hBw
                go_loopw [5] (fun i wr => ∃ (j : Nat), j ≤ k ∧ i = .int .i64 j ∧ Far x.ps x.ps[k] j ∧ Below w3.heap.size w3 wr) (fun i _ => k - (intOf i).toNat)
                case atStart => exact ⟨0, Nat.zero_le _, rfl, fun j _ h => absurd h (Nat.not_lt_zero _), Below.refl _ _⟩
                case round =>
                  obtain ⟨j, hj, rfl, hfar, hBr⟩ := hrel
                  have HFAR := hide hfar
                  clear hfar
                  have p0 := (hBr.cell (p := ⟨w.heap.size, 0, none⟩) hl3).trans e0
                  have p1 := (hBr.cell (p := ⟨w.heap.size, 1, none⟩) hl3).trans e1
                  by_cases hjk : j < k
                  · obtain ⟨v0, v1, v2, g0, g1, g2, hv⟩ := (hA3.below hBr) k hlt
                    obtain ⟨q0, q1, q2⟩ := hv
                    subst q0 q1 q2
                    have hjl : j < x.ps.length := by omega
                    obtain ⟨v0, v1, v2, m0, m1, m2, hv⟩ := (hA3.below hBr) j hjl
                    obtain ⟨q0, q1, q2⟩ := hv
                    subst q0 q1 q2
                    have HFS := hide (far_succ (unhide HFAR) hjl)
                    have HNS := hide (fun (h : SameP x.ps[j] x.ps[k]) => unhide HNO (fun g => g.2 j hjl hjk h))
                    obtain ⟨y, hy⟩ : ∃ y, y = x.ps[k] := ⟨_, rfl⟩
                    obtain ⟨z, hz⟩ : ∃ z, z = x.ps[j] := ⟨_, rfl⟩
                    rw [← hy] at g0 g1 g2 HFS HNS
                    rw [← hz] at m0 m1 m2 HFS HNS
                    have HYE := hide hy
                    clear HNO HSU HFAR hy hz
                    by_cases hsn : z.s = y.s
                    · by_cases hnn : z.n = y.n
                      · have HN := hide (unhide HNS ⟨hsn, hnn⟩)
                        rw [hsn] at m0
                        rw [hnn] at m1
                        clear HFS HNS hsn hnn
                        go_wp2
                        go_quiet (fail)
                        go_wp2
                        go_ret
                        exact ⟨by rw [unhide HN]; rfl, below_dN6 (bstep hB3 hBr) _⟩
                      · have HS := hide (unhide HFS (fun h => hnn h.2))
                        have hnb : (z.n == y.n) = false := by simpa using hnn
                        rw [hsn] at m0
                        clear HFS HNS hsn
                        go_wp2
                        go_quiet (fail)
                        go_wp2
                        go_roundw
                        all_goals first | exact ⟨⟨j + 1, by omega, by go_num, (unhide HYE) ▸ unhide HS, below_dN6 hBr _⟩, by simp [intOf]; omega⟩ | exact ⟨j + 1, by omega, by go_num, (unhide HYE) ▸ unhide HS, below_dN6 hBr _⟩ | rfl | (simp [intOf]; omega) | trace_state
                    · have HS := hide (unhide HFS (fun h => hsn h.1))
                      have hbq : (z.s.toList == y.s.toList) = false := by rw [ByteArray.toList_eq, ByteArray.toList_eq]; simp only [beq_eq_false_iff_ne]; exact fun h => hsn (bytes_ext h)
                      clear HFS HNS
                      go_wp2
                      go_quiet (fail)
                      go_wp2
                      go_roundw
                      all_goals first | exact ⟨⟨j + 1, by omega, by go_num, (unhide HYE) ▸ unhide HS, below_dN6 hBr _⟩, by simp [intOf]; omega⟩ | exact ⟨j + 1, by omega, by go_num, (unhide HYE) ▸ unhide HS, below_dN6 hBr _⟩ | rfl | (simp [intOf]; omega) | trace_state
                  · have e : j = k := by omega
                    subst e
                    have HS := hide (unhide HSU ⟨unhide HGO, unhide HFAR⟩)
                    clear HSU HNO
                    go_wp2
                    go_roundw
                    case rel => exact ⟨j + 1, by omega, by go_num, unhide HS, bstep hBm3 hBr⟩
                    case measure => simp [intOf]; omega
            · have e : k = x.ps.length := by omega
              subst e
              have HF := hide (unhide HY h12 h6 (unhide HALL) (unhide HGU))
              go_wp2
              go_ret
              exact ⟨by rw [unhide HF]; rfl, hBv⟩
    · have h5 : 6 < (x.ps.length : Int) := by omega
      have HF := hide (unhide HN2 h6)
      go_enter Try.func43, Try.ntmps43
      go_wp2
      go_ret
      exact ⟨by rw [unhide HF]; rfl, hb0⟩
  · have h5 : 12 < (x.cs.length : Int) := by omega
    have HF := hide (unhide HN1 h12)
    go_enter Try.func43, Try.ntmps43
    go_wp2
    go_ret
    exact ⟨by rw [unhide HF]; rfl, hb0⟩
end Go.Proofs.Ytkedckmpjedjoaa
