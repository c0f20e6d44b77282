/- The specification's PrgOk. -/
import Derived.Test.YtpfoaleehdiahaaQQP5
namespace Go.Proofs.Ytpfoaleehdiahaa
open Go.RowKit
set_option linter.unusedVariables false
set_option linter.unusedSimpArgs false

theorem below_dN6 {B : Nat} {a w : World} (h : Below B a w) (n : Nat) : Below B a (w.drewN n) := ⟨h.os, h.tape, h.output, h.size, h.block⟩
def ClUp (s : List Cl) (k : Nat) : Prop := ∀ j, (h : j < s.length) → j < k → clB s[j] = true
theorem clUp_succ {s : List Cl} {k : Nat} (h : ClUp s k) (hk : k < s.length) (hg : clB s[k] = true) : ClUp s (k + 1) := fun j hj hjk => by
  by_cases e : j < k
  · exact h j hj e
  · obtain rfl : j = k := by omega
    exact hg
def PcUp (s : List Pc) (k : Nat) : Prop := ∀ j, (h : j < s.length) → j < k → PcAt s j s[j]
theorem pcUp_succ {s : List Pc} {k : Nat} (h : PcUp s k) (hk : k < s.length) (hg : PcAt s k s[k]) : PcUp s (k + 1) := fun j hj hjk => by
  by_cases e : j < k
  · exact h j hj e
  · obtain rfl : j = k := by omega
    exact hg
def Far (s : List Pc) (y : Pc) (k : Nat) : Prop := ∀ j, (h : j < s.length) → j < k → ¬ SameP s[j] y
theorem far_succ {s : List Pc} {y : Pc} {k : Nat} (h : Far s y k) (hk : k < s.length) (hg : ¬ SameP s[k] y) : Far s y (k + 1) := fun j hj hjk => by
  by_cases e : j < k
  · exact h j hj e
  · obtain rfl : j = k := by omega
    exact hg

set_option maxRecDepth 100000 in
set_option maxHeartbeats 4000000 in
theorem specPrgOk_any (x : Pg) (v0 v1 : Value) (w : World) (hF : FitPg x) (hs : szPg x ≤ 1048576) (hv : PgV w x v0 v1) :
    Calls Try.prog 42 #[.agg #[v0, v1]] w fun e w' => e = .returned (.bool (prgB x)) ∧ Below w.heap.size w w' := by
  unfold szPg at hs
  obtain ⟨⟨xa, xc, rfl, a1, a2, hA⟩, ⟨ya, yc, rfl, b1, b2, hB⟩⟩ := hv
  obtain ⟨hb0, d0, d1⟩ := two_new w (.slice xa x.cs.length xc) (.slice ya x.ps.length yc) 33
  have hcl : x.cs.length ≤ 1048576 := by omega
  have hpl : x.ps.length ≤ 1048576 := by omega
  have HA := hide (fun (W : World) (hW : Below w.heap.size w W) => hA.below hW)
  have HB := hide (fun (W : World) (hW : Below w.heap.size w W) => hB.below hW)
  have HK := hide (fun (k : Nat) (hk : k < x.cs.length) (v0 v1 : Value) (W : World) (hv : ClV W x.cs[k] v0 v1) => l3Clause_any x.cs[k] v0 v1 W (hF.1 _ (List.getElem_mem hk)) (Nat.le_trans (totK_mem (List.getElem_mem hk)) (by omega)) hv)
  have HP := hide (fun (k : Nat) (hk : k < x.ps.length) (v0 v1 v2 : Value) (W : World) (hv : PcV W x.ps[k] v0 v1 v2) => l3Place_any x.ps[k] v0 v1 v2 W hv (hF.2 _ (List.getElem_mem hk)))
  have HN1 := hide (fun (h : ¬ x.cs.length ≤ 12) => prgB_no (p := x) (fun g => h g.1))
  have HN2 := hide (fun (h : ¬ x.ps.length ≤ 6) => prgB_no (p := x) (fun g => h g.2.1))
  have HN3 := hide (fun (k : Nat) (hk : k < x.cs.length) (h : clB x.cs[k] = false) => prgB_no (p := x) (fun g => by have := g.2.2.1 _ (List.getElem_mem hk); rw [h] at this; cases this))
  have HN4 := hide (fun (k : Nat) (hk : k < x.ps.length) (h : ¬ PcAt x.ps k x.ps[k]) => prgB_no (p := x) (fun g => h (g.2.2.2 k hk)))
  have HY := hide (fun (h1 : x.cs.length ≤ 12) (h2 : x.ps.length ≤ 6) (h3 : ClUp x.cs x.cs.length) (h4 : PcUp x.ps x.ps.length) => prgB_yes (p := x) ⟨h1, h2, fun c hc => by obtain ⟨j, hj, rfl⟩ := List.getElem_of_mem hc; exact h3 j hj hj, fun k hk => h4 k hk hk⟩)
  clear hA hB a1 a2 b1 b2 hs hF
  by_cases h12 : x.cs.length ≤ 12
  · by_cases h6 : x.ps.length ≤ 6
    · go_enter Try.func42, Try.ntmps42
      go_wp2
      generalize hw0 : w.alloc (.cells #[.slice xa x.cs.length xc, .slice ya x.ps.length yc] 33) = w0 at hb0 d0 d1 ⊢
      have hl0 : w.heap.size < w0.heap.size := World.block_lt_of_cell? w0 ⟨_, _, none⟩ d1
      clear hw0 HN1 HN2
      go_loopw [3] (fun i wr => ∃ (k : Nat), k ≤ x.cs.length ∧ i = .int .i64 k ∧ ClUp x.cs k ∧ Below w0.heap.size w0 wr) (fun i _ => x.cs.length - (intOf i).toNat)
      case atStart => exact ⟨0, Nat.zero_le _, rfl, fun j _ h => absurd h (Nat.not_lt_zero _), Below.refl _ _⟩
      case round =>
        obtain ⟨k, hk, rfl, hgu, hBr⟩ := hrel
        have HGU := hide hgu
        clear hgu
        have c0 := (hBr.cell (p := ⟨w.heap.size, 0, none⟩) hl0).trans d0
        have c1 := (hBr.cell (p := ⟨w.heap.size, 1, none⟩) hl0).trans d1
        have hBw := bstep hb0 hBr
        by_cases hlt : k < x.cs.length
        · rcases unhide HA wr hBw with e | ⟨b, off, rfl, hA⟩
          · rw [e] at hlt; simp at hlt
          obtain ⟨v0, v1, g0, g1, hv⟩ := hA k hlt
          obtain ⟨pa, pc, e0, _⟩ := hv.1
          obtain ⟨qa, qc, e1, _⟩ := hv.2
          have HC := hide (unhide HK k hlt v0 v1 wr hv)
          have HSU := hide (clUp_succ (unhide HGU) hlt)
          have HNO := hide (unhide HN3 k hlt)
          clear hv hA
          subst e0 e1
          cases hgo : clB x.cs[k] with
          | false =>
            rw [hgo] at HC
            have HN := hide (unhide HNO hgo)
            clear HNO HSU hgo
            go_wp2_with (go_at_call 95; refine (unhide HC).mono ?_; rintro e w3 ⟨rfl, hb3⟩)
            go_ret
            exact ⟨by rw [unhide HN]; rfl, bstep hBw hb3⟩
          | true =>
            rw [hgo] at HC
            have HS := hide (unhide HSU hgo)
            clear HNO HSU hgo
            go_wp2_with (go_at_call 95; refine (unhide HC).mono ?_; rintro e w3 ⟨rfl, hb3⟩)
            go_roundw
            case rel => exact ⟨k + 1, by omega, by go_num, unhide HS, bstep hBr hb3⟩
            case measure => simp [intOf]; omega
        · have e : k = x.cs.length := by omega
          subst e
          have HALL := hide (unhide HGU)
          generalize wr = wm at *
          have hlm : w.heap.size < wm.heap.size := World.block_lt_of_cell? wm ⟨_, _, none⟩ c1
          clear hBr HGU d0 d1 hl0 hb0
          go_wp2
          go_loopw [4] (fun i wr => ∃ (k : Nat), k ≤ x.ps.length ∧ i = .int .i64 k ∧ PcUp x.ps k ∧ Below wm.heap.size wm wr) (fun i _ => x.ps.length - (intOf i).toNat)
          case atStart => exact ⟨0, Nat.zero_le _, rfl, fun j _ h => absurd h (Nat.not_lt_zero _), Below.refl _ _⟩
          case round =>
            obtain ⟨k, hk, rfl, hgu, hBr⟩ := hrel
            have HGU := hide hgu
            clear hgu
            have e0 := (hBr.cell (p := ⟨w.heap.size, 0, none⟩) hlm).trans c0
            have e1 := (hBr.cell (p := ⟨w.heap.size, 1, none⟩) hlm).trans c1
            have hBv := bstep hBw hBr
            by_cases hlt : k < x.ps.length
            · rcases unhide HB wr hBv with e | ⟨b, off, rfl, hA⟩
              · rw [e] at hlt; simp at hlt
              obtain ⟨v0, v1, v2, g0, g1, g2, hv⟩ := hA k hlt
              have HC := hide (unhide HP k hlt v0 v1 v2 wr hv)
              have HSU := hide (pcUp_succ (unhide HGU) hlt)
              have HNO := hide (unhide HN4 k hlt)
              obtain ⟨q0, q1, q2⟩ := hv
              subst q0 q1 q2
              cases hgo : pcB x.ps[k] with
              | false =>
                rw [hgo] at HC
                have HN := hide (unhide HNO (fun h => by have := h.1; rw [hgo] at this; cases this))
                clear HNO HSU hgo hA
                go_wp2_with (go_at_call 96; refine (unhide HC).mono ?_; rintro e w3 ⟨rfl, hb3⟩)
                go_ret
                exact ⟨by rw [unhide HN]; rfl, bstep hBv hb3⟩
              | true =>
                rw [hgo] at HC
                have HGO := hide hgo
                clear hgo
                have hlr : w.heap.size < wr.heap.size := World.block_lt_of_cell? wr ⟨_, _, none⟩ e1
                go_wp2_with (go_at_call 96; refine (unhide HC).mono ?_; rintro e w3 ⟨rfl, hb3⟩)
                have hA3 := hA.below hb3
                replace e0 := (hb3.cell (p := ⟨w.heap.size, 0, none⟩) hlr).trans e0
                replace e1 := (hb3.cell (p := ⟨w.heap.size, 1, none⟩) hlr).trans e1
                have hl3 : w.heap.size < w3.heap.size := World.block_lt_of_cell? w3 ⟨_, _, none⟩ e1
                have hBm3 := bstep hBr hb3
                have hB3 := bstep hBv hb3
                clear HC hA hb3 hBr hBv hlr g0 g1 g2 hlm c0 c1 hBw
                go_loopw [5] (fun i wr => ∃ (j : Nat), j ≤ k ∧ i = .int .i64 j ∧ Far x.ps x.ps[k] j ∧ Below w3.heap.size w3 wr) (fun i _ => k - (intOf i).toNat)
                case atStart => exact ⟨0, Nat.zero_le _, rfl, fun j _ h => absurd h (Nat.not_lt_zero _), Below.refl _ _⟩
                case round =>
                  obtain ⟨j, hj, rfl, hfar, hBr⟩ := hrel
                  have HFAR := hide hfar
                  clear hfar
                  have p0 := (hBr.cell (p := ⟨w.heap.size, 0, none⟩) hl3).trans e0
                  have p1 := (hBr.cell (p := ⟨w.heap.size, 1, none⟩) hl3).trans e1
                  by_cases hjk : j < k
                  · obtain ⟨v0, v1, v2, g0, g1, g2, hv⟩ := (hA3.below hBr) k hlt
                    obtain ⟨q0, q1, q2⟩ := hv
                    subst q0 q1 q2
                    have hjl : j < x.ps.length := by omega
                    obtain ⟨v0, v1, v2, m0, m1, m2, hv⟩ := (hA3.below hBr) j hjl
                    obtain ⟨q0, q1, q2⟩ := hv
                    subst q0 q1 q2
                    have HFS := hide (far_succ (unhide HFAR) hjl)
                    have HNS := hide (fun (h : SameP x.ps[j] x.ps[k]) => unhide HNO (fun g => g.2 j hjl hjk h))
                    obtain ⟨y, hy⟩ : ∃ y, y = x.ps[k] := ⟨_, rfl⟩
                    obtain ⟨z, hz⟩ : ∃ z, z = x.ps[j] := ⟨_, rfl⟩
                    rw [← hy] at g0 g1 g2 HFS HNS
                    rw [← hz] at m0 m1 m2 HFS HNS
                    have HYE := hide hy
                    clear HNO HSU HFAR hy hz
                    by_cases hsn : z.s = y.s
                    · by_cases hnn : z.n = y.n
                      · have HN := hide (unhide HNS ⟨hsn, hnn⟩)
                        rw [hsn] at m0
                        rw [hnn] at m1
                        clear HFS HNS hsn hnn
                        go_wp2
                        go_quiet (fail)
                        go_wp2
                        go_ret
                        exact ⟨by rw [unhide HN]; rfl, below_dN6 (bstep hB3 hBr) _⟩
                      · have HS := hide (unhide HFS (fun h => hnn h.2))
                        have hnb : (z.n == y.n) = false := by simpa using hnn
                        rw [hsn] at m0
                        clear HFS HNS hsn
                        go_wp2
                        go_quiet (fail)
                        go_wp2
                        go_roundw
                        all_goals first | exact ⟨⟨j + 1, by omega, by go_num, (unhide HYE) ▸ unhide HS, below_dN6 hBr _⟩, by simp [intOf]; omega⟩ | exact ⟨j + 1, by omega, by go_num, (unhide HYE) ▸ unhide HS, below_dN6 hBr _⟩ | rfl | (simp [intOf]; omega) | trace_state
                    · have HS := hide (unhide HFS (fun h => hsn h.1))
                      have hbq : (z.s.toList == y.s.toList) = false := by rw [ByteArray.toList_eq, ByteArray.toList_eq]; simp only [beq_eq_false_iff_ne]; exact fun h => hsn (bytes_ext h)
                      clear HFS HNS
                      go_wp2
                      go_quiet (fail)
                      go_wp2
                      go_roundw
                      all_goals first | exact ⟨⟨j + 1, by omega, by go_num, (unhide HYE) ▸ unhide HS, below_dN6 hBr _⟩, by simp [intOf]; omega⟩ | exact ⟨j + 1, by omega, by go_num, (unhide HYE) ▸ unhide HS, below_dN6 hBr _⟩ | rfl | (simp [intOf]; omega) | trace_state
                  · have e : j = k := by omega
                    subst e
                    have HS := hide (unhide HSU ⟨unhide HGO, unhide HFAR⟩)
                    clear HSU HNO
                    go_wp2
                    go_roundw
                    case rel => exact ⟨j + 1, by omega, by go_num, unhide HS, bstep hBm3 hBr⟩
                    case measure => simp [intOf]; omega
            · have e : k = x.ps.length := by omega
              subst e
              have HF := hide (unhide HY h12 h6 (unhide HALL) (unhide HGU))
              go_wp2
              go_ret
              exact ⟨by rw [unhide HF]; rfl, hBv⟩
    · have h5 : 6 < (x.ps.length : Int) := by omega
      have HF := hide (unhide HN2 h6)
      go_enter Try.func42, Try.ntmps42
      go_wp2
      go_ret
      exact ⟨by rw [unhide HF]; rfl, hb0⟩
  · have h5 : 12 < (x.cs.length : Int) := by omega
    have HF := hide (unhide HN1 h12)
    go_enter Try.func42, Try.ntmps42
    go_wp2
    go_ret
    exact ⟨by rw [unhide HF]; rfl, hb0⟩
end Go.Proofs.Ytpfoaleehdiahaa
